/- The document's has (layer 17), key and value (layer 7). -/
import Derived.Test.YtmclnamgihphcaaGreatMM23
import Derived.Test.YtmclnamgihphcaaGreatMM16
import Derived.Deep.DeepCutAuto
import Derived.Test.YtmclnamgihphcaaGreatMM22
import Derived.Test.YtmclnamgihphcaaGreatMM12
import Derived.Deep.AppendSrc
import Derived.Deep.DeepAppendWide
set_option linter.unusedVariables false
set_option linter.unusedSimpArgs false
set_option linter.unusedVariables false
set_option linter.unusedSimpArgs false
namespace Go.Proofs.YtmclnamgihphcaaGreat
open Go.RowKit

set_option maxRecDepth 100000 in
set_option maxHeartbeats 2000000 in
theorem r17Has_any (v : Value) (xs : List (List UInt8)) (Y : ByteArray) (z : Bool) (w : World) (hv : Hid (StrsAt w v xs)) (hl : xs.length ≤ 1000000) (hz : Hid (xs.contains Y.data.toList = z)) :
    Calls Tryz.prog 28 #[v, .string Y] w (NewRes (.bool z) w) := by
  obtain ⟨p, c, rfl⟩ : ∃ p c, v = .slice p xs.length c := by obtain ⟨p, c, e, -⟩ := hv.out; exact ⟨p, c, e⟩
  go_enter Tryz.func28, Tryz.ntmps28
  go_wp2_with fail
  go_loopw [5] (fun iv wr => ∃ (k : Nat), k ≤ xs.length ∧ iv = .int .i64 k ∧ Hid ((xs.drop k).contains Y.data.toList = z) ∧ Hid (Keeps (fun _ => False) w wr)) (fun iv _ => xs.length - (intOf iv).toNat)
  case atStart => exact ⟨0, by omega, rfl, hz, Lib.hid (Keeps.refl _ _)⟩
  case round =>
    obtain ⟨k, hk, rfl, hd, hkr⟩ := hrel
    by_cases hlk : k < xs.length
    · obtain ⟨x, hx⟩ : ∃ x, xs[k]? = some x := ⟨_, List.getElem?_eq_getElem hlk⟩
      obtain ⟨g, o, rfl, hcx⟩ := strs_get hv.out hx
      obtain ⟨X, hX⟩ : ∃ X : ByteArray, X = ⟨x.toArray⟩ := ⟨_, rfl⟩
      have c0 : wr.cell? ⟨g, o + k, none⟩ = some (.string X) := by rw [hX]; exact (hkr.out.cell (p := ⟨g, o + k, none⟩) (World.block_lt_of_cell? w _ hcx) id).trans hcx
      have hstep : Hid ((decide (X.data.toList = Y.data.toList) || (xs.drop (k + 1)).contains Y.data.toList) = z) := Lib.hid (by
        rw [← hd.out, List.drop_eq_getElem_cons hlk, List.contains_cons]
        have e : xs[k] = x := by have := List.getElem?_eq_getElem hlk; rw [this] at hx; injection hx
        rw [e, hX]
        congr 1
        show decide (x = Y.data.toList) = (Y.data.toList == x)
        by_cases h : x = Y.data.toList
        · rw [decide_eq_true h, h]; simp
        · rw [decide_eq_false h]; simpa using fun e => h e.symm)
      obtain ⟨b, hb⟩ : ∃ b, decide (X.data.toList = Y.data.toList) = b := ⟨_, rfl⟩
      rw [hb] at hstep
      have e1 : (X.toList == Y.toList) = b := by rw [← hb]; exact eq_list X Y
      have n1 : (0 : Int) ≤ (k : Int) := by omega
      have n2 : (k : Int) < (xs.length : Int) := by omega
      clear hX hcx hx hb hd
      cases b with
      | true =>
        have hzz : Hid (z = true) := Lib.hid (by rw [← hstep.out]; rfl)
        clear hstep
        go_wp2_with fail
        go_ret
        exact ⟨by rw [hzz.out]; rfl, hkr.out⟩
      | false =>
        have hzz : Hid ((xs.drop (k + 1)).contains Y.data.toList = z) := Lib.hid (by rw [← hstep.out]; rfl)
        clear hstep
        go_wp2_with fail
        exact ⟨⟨k + 1, by omega, by go_num, hzz, hkr⟩, by simp [intOf]; omega⟩
    · obtain rfl : k = xs.length := by omega
      have hzz : Hid (z = false) := Lib.hid (by rw [← hd.out, List.drop_length]; rfl)
      clear hlk hd
      go_wp2_with fail
      go_ret
      exact ⟨by rw [hzz.out]; rfl, hkr.out⟩
set_option maxRecDepth 100000 in
set_option maxHeartbeats 2000000 in
theorem r7Key_any (h : Int) (N F V : ByteArray) (w : World) :
    Calls Tryz.prog 47 #[.agg #[.int .i64 h, .string N, .string F, .string V]] w (NewRes (.agg #[.int .i64 h, .string N, .string F, .string ⟨#[]⟩]) w) := by
  go_enter Tryz.func47, Tryz.ntmps47
  go_wp2_with fail
  have hR := (BlkAt.new (w.alloc (.cells #[.int .i64 h, .string N, .string F, .string V] 48)) 48 [.int .i64 h, .string N, .string F, .string ⟨#[]⟩]).range
  rw [alloc_size] at hR
  refine bodyPost_ret (ret_cell Tryz.results47 _ _ (w.heap.size + 1) [.int .i64 h, .string N, .string F, .string ⟨#[]⟩] _ rfl hR Tryz.underlying48 rfl lineInfo5) rfl ?_
  exact ⟨rfl, ((Keeps.refl _ _).alloc _).alloc _⟩
def valueK (ls : List LineD) (h : Int) (n l : List UInt8) : List UInt8 := match ls.find? (keyB h n l) with
  | some q => q.value
  | none => []
theorem line_eqb (W : World) (h1 h2 : Int) (n1 f1 v1 n2 f2 v2 : ByteArray) (z : Bool) (hz : (z = true) ↔ (h1 = h2 ∧ n1.toList = n2.toList ∧ f1.toList = f2.toList ∧ v1.toList = v2.toList)) :
    (binOp .eql 48 (.agg #[.int .i64 h1, .string n1, .string f1, .string v1]) (.agg #[.int .i64 h2, .string n2, .string f2, .string v2])).run Tryz.prog W = .ok (.bool z) W := by
  by_cases e1 : h1 = h2
  · subst e1
    by_cases e2 : n1.toList = n2.toList
    · by_cases e3 : f1.toList = f2.toList
      · by_cases e4 : v1.toList = v2.toList
        · obtain rfl : z = true := hz.2 ⟨rfl, e2, e3, e4⟩
          go_simp
        · obtain rfl : z = false := by cases z with | false => rfl | true => exact absurd (hz.1 rfl).2.2.2 e4
          go_simp
      · obtain rfl : z = false := by cases z with | false => rfl | true => exact absurd (hz.1 rfl).2.2.1 e3
        go_simp
    · obtain rfl : z = false := by cases z with | false => rfl | true => exact absurd (hz.1 rfl).2.1 e2
      go_simp
  · obtain rfl : z = false := by cases z with | false => rfl | true => exact absurd (hz.1 rfl).1 e1
    go_simp
set_option maxRecDepth 100000 in
set_option maxHeartbeats 4000000 in
theorem r7Value_any (v : Value) (ls : List LineD) (h : Int) (KN KF V : ByteArray) (w : World) (hv : Hid (RowsAt 4 lineVals w v ls)) (hl : ls.length ≤ 1000000) (hV : Hid (V = ⟨(valueK ls h KN.data.toList KF.data.toList).toArray⟩)) :
    Calls Tryz.prog 48 #[v, .agg #[.int .i64 h, .string KN, .string KF, .string ⟨#[]⟩]] w (NewRes (.string V) w) := by
  obtain ⟨p, c, rfl⟩ := hv.out.slice
  go_enter Tryz.func48, Tryz.ntmps48
  go_wp2_with fail
  have hK0 : Hid (BlkAt (w.alloc (.cells #[.int .i64 h, .string KN, .string KF, .string ⟨#[]⟩] 48)) w.heap.size 48 [.int .i64 h, .string KN, .string KF, .string ⟨#[]⟩]) := Lib.hid (BlkAt.new _ _ _)
  have hk0 : Hid (Keeps (fun _ => False) w (w.alloc (.cells #[.int .i64 h, .string KN, .string KF, .string ⟨#[]⟩] 48))) := Lib.hid ((Keeps.refl _ _).alloc _)
  generalize hw1 : w.alloc (.cells #[.int .i64 h, .string KN, .string KF, .string ⟨#[]⟩] 48) = w1 at hK0 hk0 ⊢
  generalize hbk : w.heap.size = bk at hK0 ⊢
  clear hw1 hbk
  go_loopw [5] (fun iv wr => ∃ (k : Nat), k ≤ ls.length ∧ iv = .int .i64 k ∧ Hid (∀ (j : Nat) (r : LineD), j < k → ls[j]? = some r → keyB h KN.data.toList KF.data.toList r = false) ∧ Hid (Keeps (fun _ => False) w1 wr)) (fun iv _ => ls.length - (intOf iv).toNat)
  case atStart => exact ⟨0, by omega, rfl, Lib.hid (fun j r hj => by omega), Lib.hid (Keeps.refl _ _)⟩
  case round =>
    obtain ⟨k, hk, rfl, hno, hkr⟩ := hrel
    by_cases hlk : k < ls.length
    · obtain ⟨g, o, rfl, hrows⟩ := hv.out.open (by omega)
      obtain ⟨q, hq⟩ : ∃ q, ls[k]? = some q := ⟨_, List.getElem?_eq_getElem hlk⟩
      obtain ⟨N, hN⟩ : ∃ N : ByteArray, N = ⟨q.name.toArray⟩ := ⟨_, rfl⟩
      obtain ⟨F, hF⟩ : ∃ N : ByteArray, N = ⟨q.leaf.toArray⟩ := ⟨_, rfl⟩
      obtain ⟨U, hU⟩ : ∃ N : ByteArray, N = ⟨q.value.toArray⟩ := ⟨_, rfl⟩
      have hrow : Hid (wr.rangeAt g (o + k * 4) [.int .i64 q.head, .string N, .string F, .string U]) := Lib.hid (by rw [hN, hF, hU]; exact (hk0.out.trans hkr.out).rangeAt (hrows k q hq) id)
      have hkb := Lib.hid (hK0.out.keep hkr.out id)
      obtain ⟨z, hz⟩ : ∃ z, keyB h KN.data.toList KF.data.toList q = z := ⟨_, rfl⟩
      have hzz : Hid ((z = true) ↔ (q.head = h ∧ N.toList = KN.toList ∧ F.toList = KF.toList)) := Lib.hid (by
        rw [← hz, Lib.toList_data, Lib.toList_data, Lib.toList_data, Lib.toList_data, hN, hF]
        unfold keyB
        simp only [Bool.and_eq_true, decide_eq_true_eq, and_assoc])
      have hz' := Lib.hid hz
      have hq' := Lib.hid hq
      have hUl : Hid (U = ⟨q.value.toArray⟩) := Lib.hid hU
      have n1 : (0 : Int) ≤ (k : Int) := by omega
      have n2 : (k : Int) < (ls.length : Int) := by omega
      clear hrows hN hF hU hz hq
      go_upto_region 4 with fail
      refine wp_region_noPanic ?_
      refine wp_region_held_drew (S := (fun W => Keeps (fun _ => False) wr W)) (by kernel_rfl) (((Keeps.refl _ _).drew)) (fun hHeld => ?_)
      refine tk 0 rfl ?_
      refine tk 1 rfl ?_
      refine tk 2 rfl ?_
      refine tkL 3 rfl (yieldsIf_load_mid (by rfl) 48 (.tmp 14) rfl g (o + k * 4) rfl [.int .i64 q.head, .string N, .string F, .string U] _ (fun _ s => s.rangeAt hrow.out id) Tryz.underlying48 rfl lineInfo5) ?_
      refine tkL 5 rfl (yieldsIf_load_mid (by rfl) 48 (.tmp 3) rfl bk 0 rfl [.int .i64 h, .string KN, .string KF, .string ⟨#[]⟩] _ (fun _ s => (hkb.out.keep s id).range) Tryz.underlying48 rfl lineInfo5) ?_
      refine stepL 4 rfl (by kernel_rfl) (fun K hK => ?_)
      go_simp
      (refine (r7Key_any q.head N F U _).mono ?_; rintro e w4 ⟨rfl, hk4⟩)
      go_wp2_with fail
      refine hK.out _ _ (hHeld.trans hk4) (fun hHeld => ?_)
      clear hK K
      try simp only [Act.put, sA, sZ, sS]
      refine tk 6 (v := .bool z) (hy := fun wS hSw => by
        have hl := line_eqb wS q.head h N F ⟨#[]⟩ KN KF ⟨#[]⟩ z (by rw [hzz.out]; simp)
        unfold execOp
        simp only [Act.eval, Array.getD_eq_getD_getElem?, List.getElem?_toArray, List.getElem?_cons_zero, List.getElem?_cons_succ, Option.getD_some, Sem.run_bind, Sem.run_pure, Result.andThen_ok, guardLine5, hl]) rfl ?_
      refine wpAnyH_done (by kernel_rfl) (NoPanic.normal ?_) _
      have hK := Lib.hid (hkr.out.trans hHeld)
      have hr2 := Lib.hid (hHeld.rangeAt hrow.out id)
      clear hHeld hrow hkb hzz hkr
      cases z with
      | true =>
        have hres : Hid (V = U) := Lib.hid (by
          rw [hV.out, hUl.out]
          have hf : ls.find? (keyB h KN.data.toList KF.data.toList) = some q := find_first hq'.out (fun j r hj hr => hno.out j r hj hr) hz'.out
          unfold valueK; rw [hf])
        have c3 := hr2.out 3 (.string U) rfl
        clear hr2 hno hz' hq' hV
        go_wp2_with fail
        go_ret
        exact ⟨by rw [hres.out]; rfl, hk0.out.trans hK.out⟩
      | false =>
        have hno2 : Hid (∀ (j : Nat) (r : LineD), j < k + 1 → ls[j]? = some r → keyB h KN.data.toList KF.data.toList r = false) := Lib.hid (fun j r hj hr => by
          by_cases e : j < k
          · exact hno.out j r e hr
          · obtain rfl : j = k := by omega
            rw [hq'.out] at hr; injection hr with hr; subst hr; exact hz'.out)
        go_wp2_with fail
        exact ⟨⟨k + 1, by omega, by go_num, hno2, hK⟩, by simp [intOf]; omega⟩
    · obtain rfl : k = ls.length := by omega
      have hres : Hid (V = ⟨#[]⟩) := Lib.hid (by
        rw [hV.out]
        have hf : ls.find? (keyB h KN.data.toList KF.data.toList) = none := find_nowhere (fun j r hj hr => hno.out j r hj hr)
        unfold valueK; rw [hf])
      clear hno hlk
      go_wp2_with fail
      go_ret
      exact ⟨by rw [hres.out]; rfl, hk0.out.trans hkr.out⟩
end Go.Proofs.YtmclnamgihphcaaGreat
/- The document's diff, plain: keys in order. -/
set_option linter.unusedVariables false
set_option linter.unusedSimpArgs false
namespace Go.Proofs.YtmclnamgihphcaaGreat
open Go.RowKit

def kL (l : LineD) : LineD := ⟨l.head, l.name, l.leaf, []⟩
theorem less_kL (a b : LineD) : lessB (kL a) (kL b) = lessB a b := rfl
theorem less_kLr (a b : LineD) : lessB a (kL b) = lessB a b := rfl
theorem less_kLl (a b : LineD) : lessB (kL a) b = lessB a b := rfl
theorem less_irrL (a : LineD) : lessB a a = false := by
  rw [Bool.eq_false_iff]
  intro h
  have := less_asymm h
  rw [h] at this; cases this
theorem kL_eq {a b : LineD} (h1 : lessB a b = false) (h2 : lessB b a = false) : kL a = kL b := by
  have hk := key_eq h1 h2
  unfold kL
  rw [hk.1, hk.2.1, hk.2.2]
theorem rises_of_head {q : LineD} {r : List LineD} (h : ∀ x ∈ r, lessB q x = true) (hr : rises r) : rises (q :: r) := by
  cases r with
  | nil => trivial
  | cons a r => exact ⟨h a (by simp), hr⟩
def insK (l : LineD) : List LineD → List LineD
  | [] => [l]
  | q :: r => if lessB q l = true then q :: insK l r else if lessB l q = true then l :: q :: r else q :: r
theorem insK_mem {l : LineD} (hl : kL l = l) : ∀ {all : List LineD}, (∀ q ∈ all, kL q = q) → ∀ k, k ∈ insK l all ↔ k ∈ all ∨ k = l := by
  intro all
  induction all with
  | nil => intro _ k; simp [insK]
  | cons q r ih =>
    intro hq k
    unfold insK
    by_cases h1 : lessB q l = true
    · rw [if_pos h1, List.mem_cons, ih (fun x hx => hq x (by simp [hx])), List.mem_cons, or_assoc]
    · rw [if_neg h1]
      by_cases h2 : lessB l q = true
      · rw [if_pos h2]
        simp only [List.mem_cons]
        constructor
        · rintro (h | h | h)
          · exact .inr h
          · exact .inl (.inl h)
          · exact .inl (.inr h)
        · rintro ((h | h) | h)
          · exact .inr (.inl h)
          · exact .inr (.inr h)
          · exact .inl h
      · rw [if_neg h2]
        have e : q = l := by
          have := kL_eq (Bool.eq_false_iff.2 h1) (Bool.eq_false_iff.2 h2)
          rw [hq q (by simp), hl] at this
          exact this
        constructor
        · exact .inl
        · rintro (h | h)
          · exact h
          · rw [h, e]; simp
theorem insK_rises {l : LineD} : ∀ {all : List LineD}, rises all → rises (insK l all) ∧ ∀ q, (∀ x ∈ all, lessB q x = true) → lessB q l = true → ∀ x ∈ insK l all, lessB q x = true := by
  intro all
  induction all with
  | nil => intro _; exact ⟨trivial, fun q _ h x hx => by simp [insK] at hx; rw [hx]; exact h⟩
  | cons a r ih =>
    intro hr
    obtain ⟨i1, i2⟩ := ih (rises_tail hr)
    unfold insK
    by_cases h1 : lessB a l = true
    · rw [if_pos h1]
      refine ⟨rises_of_head (i2 a (fun x hx => rises_head hr x hx) h1) i1, fun q hq hl x hx => ?_⟩
      rw [List.mem_cons] at hx
      rcases hx with rfl | hx
      · exact hq x (by simp)
      · exact i2 q (fun y hy => hq y (by simp [hy])) hl x hx
    · rw [if_neg h1]
      by_cases h2 : lessB l a = true
      · rw [if_pos h2]
        refine ⟨rises_of_head (fun x hx => ?_) hr, fun q hq hl x hx => ?_⟩
        · rw [List.mem_cons] at hx
          rcases hx with rfl | hx
          · exact h2
          · exact less_trans h2 (rises_head hr x hx)
        · rw [List.mem_cons] at hx
          rcases hx with rfl | hx
          · exact hl
          · exact hq x hx
      · rw [if_neg h2]
        exact ⟨hr, fun q hq _ x hx => hq x hx⟩
def allK (ls : List LineD) : List LineD := ls.foldl (fun all l => insK (kL l) all) []
theorem allK_from : ∀ (ls : List LineD) (all : List LineD), rises all → (∀ q ∈ all, kL q = q) → rises (ls.foldl (fun all l => insK (kL l) all) all) ∧ (∀ q ∈ ls.foldl (fun all l => insK (kL l) all) all, kL q = q) ∧ ∀ k, k ∈ ls.foldl (fun all l => insK (kL l) all) all ↔ k ∈ all ∨ ∃ l ∈ ls, k = kL l := by
  intro ls
  induction ls with
  | nil => intro all h1 h2; exact ⟨h1, h2, fun k => by simp⟩
  | cons l ls ih =>
    intro all h1 h2
    have hm := insK_mem (l := kL l) rfl h2
    have h3 : ∀ q ∈ insK (kL l) all, kL q = q := fun q hq => by
      rcases (hm q).1 hq with h | h
      · exact h2 q h
      · rw [h]; rfl
    obtain ⟨j1, j2, j3⟩ := ih (insK (kL l) all) (insK_rises h1).1 h3
    refine ⟨j1, j2, fun k => ?_⟩
    rw [List.foldl_cons, j3 k, hm k]
    simp only [List.mem_cons]
    constructor
    · rintro ((h | h) | ⟨x, hx, h⟩)
      · exact .inl h
      · exact .inr ⟨l, .inl rfl, h⟩
      · exact .inr ⟨x, .inr hx, h⟩
    · rintro (h | ⟨x, hx | hx, h⟩)
      · exact .inl (.inl h)
      · rw [hx] at h; exact .inl (.inr h)
      · exact .inr ⟨x, hx, h⟩
/-- lines in order, of the same members, are the same -/
theorem rises_same : ∀ {X Y : List LineD}, rises X → rises Y → (∀ k, k ∈ X ↔ k ∈ Y) → X = Y := by
  intro X
  induction X with
  | nil =>
    intro Y _ _ h
    cases Y with
    | nil => rfl
    | cons y Y => exact absurd ((h y).2 (by simp)) (by simp)
  | cons x X ih =>
    intro Y hX hY h
    cases Y with
    | nil => exact absurd ((h x).1 (by simp)) (by simp)
    | cons y Y =>
      have hxy : x = y := by
        have h1 := (h x).1 (by simp)
        have h2 := (h y).2 (by simp)
        rw [List.mem_cons] at h1 h2
        rcases h1 with h1 | h1
        · exact h1
        · rcases h2 with h2 | h2
          · exact h2.symm
          · have a := rises_head hY x h1
            have b := rises_head hX y h2
            rw [less_asymm a] at b; cases b
      subst hxy
      rw [ih (rises_tail hX) (rises_tail hY) (fun k => ?_)]
      have hk := h k
      rw [List.mem_cons, List.mem_cons] at hk
      constructor
      · intro hin
        rcases hk.1 (.inr hin) with e | e
        · have := rises_head hX k hin
          rw [e, less_irrL] at this; cases this
        · exact e
      · intro hin
        rcases hk.2 (.inr hin) with e | e
        · have := rises_head hY k hin
          rw [e, less_irrL] at this; cases this
        · exact e
end Go.Proofs.YtmclnamgihphcaaGreat
/- From a configuration to itself nothing is planned, plain. -/
set_option linter.unusedVariables false
set_option linter.unusedSimpArgs false
namespace Go.Proofs.YtmclnamgihphcaaGreat
open Go.RowKit

theorem merge_self : ∀ (n : Nat) (a : List LineD), mergeC n a a = [] := by
  intro n
  induction n with
  | zero => intro a; rfl
  | succ n ih =>
    intro a
    rw [mergeC]
    by_cases h : a = [] ∧ a = []
    · rw [if_pos h]
    · rw [if_neg h]
      cases a with
      | nil => exact absurd ⟨rfl, rfl⟩ h
      | cons x a =>
        have z : aheadB (x :: a) (x :: a) = true := by show (!lessB x x) = true; rw [less_irrL]; rfl
        have h1 : stepCh (x :: a) (x :: a) = [] := by unfold stepCh; rw [z]; unfold oneCh; simp
        have h2 : nextL (x :: a) (x :: a) = a := by unfold nextL; rw [z]; rfl
        rw [h1, h2, ih a]; rfl
theorem flat_none {α β : Type} {f : α → List β} {l : List α} (h : ∀ x ∈ l, f x = []) : l.flatMap f = [] := by
  induction l with
  | nil => rfl
  | cons a l ih => rw [List.flatMap_cons, h a (by simp), ih (fun x hx => h x (by simp [hx]))]; rfl
theorem make_self (a : List LineD) : makeG a a = [] := by
  unfold makeG rawA
  rw [merge_self]
  have h1 : wholeC a [] = false := by unfold wholeC; simp
  rw [h1, if_neg Bool.false_ne_true]
  have h2 : facesC a a [] = [] := by
    unfold facesC
    rw [flat_none (fun n hn => ?_), flat_none (fun n hn => ?_)]
    · rfl
    · unfold face2; rw [if_pos (by simpa using hn)]
    · have hc : (namesA 2 a).contains n = true := by simpa using hn
      unfold face1
      rw [hc]
      rfl
  have h3 : areasC [] = [] := rfl
  rw [h2, h3]
  simp [sortA, compactL]
end Go.Proofs.YtmclnamgihphcaaGreat
/- Lines of a right configuration, plain: none is empty; what stands at the head. -/
set_option linter.unusedVariables false
set_option linter.unusedSimpArgs false
namespace Go.Proofs.YtmclnamgihphcaaGreat
open Go.RowKit

theorem rows_ne : ∀ r ∈ tableD, rightB r.kind r.lo r.hi r.cs [] = false := by decide +kernel
theorem rows_top : ∀ r ∈ tableD, r.head = 0 → r.name = idW := by decide +kernel
theorem findD_mem {h : Int} {n : List UInt8} {r : RowD} (e : findD h n = some r) : r ∈ tableD ∧ r.head = h ∧ r.name = n := by
  unfold findD at e
  have h1 := List.mem_of_find?_eq_some e
  have h2 := List.find?_some e
  simp only [Bool.and_eq_true, decide_eq_true_eq] at h2
  exact ⟨h1, h2.1, h2.2⟩
theorem value_ne {l : LineD} (h : lineB l = true) : l.value ≠ [] := by
  intro e
  unfold lineB at h
  cases hf : findD l.head l.leaf with
  | none => rw [hf] at h; cases h
  | some r =>
    rw [hf, e] at h
    have := rows_ne r (findD_mem hf).1
    simp [this] at h
theorem top_leaf {l : LineD} (h : lineB l = true) (h0 : l.head = 0) : l.leaf = idW := by
  unfold lineB at h
  cases hf : findD l.head l.leaf with
  | none => rw [hf] at h; cases h
  | some r =>
    obtain ⟨h1, h2, h3⟩ := findD_mem hf
    rw [← h3]; exact rows_top r h1 (h2.trans h0)
end Go.Proofs.YtmclnamgihphcaaGreat
/- The document's diff is the code's, plain. -/
set_option linter.unusedVariables false
set_option linter.unusedSimpArgs false
namespace Go.Proofs.YtmclnamgihphcaaGreat
open Go.RowKit

def mkey (a b : List LineD) : LineD := kL (if aheadB b a = true then b.headD zeroL else a.headD zeroL)
def mergeK : Nat → List LineD → List LineD → List LineD
  | 0, _, _ => []
  | n + 1, a, b => if a = [] ∧ b = [] then [] else mkey a b :: mergeK n (nextL a b) (nextL b a)
theorem step_cases {a b : List LineD} (ha : rises a) (hb : rises b) (hne : ¬ (a = [] ∧ b = [])) :
    (∃ x a', a = x :: a' ∧ nextL a b = a' ∧ nextL b a = b ∧ (∀ y ∈ b, lessB x y = true) ∧ mkey a b = kL x ∧ stepCh a b = oneCh x x.value []) ∨
    (∃ y b', b = y :: b' ∧ nextL a b = a ∧ nextL b a = b' ∧ (∀ x ∈ a, lessB y x = true) ∧ mkey a b = kL y ∧ stepCh a b = oneCh y [] y.value) ∨
    (∃ x a' y b', a = x :: a' ∧ b = y :: b' ∧ nextL a b = a' ∧ nextL b a = b' ∧ kL x = kL y ∧ mkey a b = kL y ∧ stepCh a b = oneCh y x.value y.value) := by
  cases a with
  | nil =>
    cases b with
    | nil => exact absurd ⟨rfl, rfl⟩ hne
    | cons y b => exact .inr (.inl ⟨y, b, rfl, rfl, rfl, fun x hx => by simp at hx, rfl, rfl⟩)
  | cons x a =>
    cases b with
    | nil => exact .inl ⟨x, a, rfl, rfl, rfl, fun y hy => by simp at hy, rfl, rfl⟩
    | cons y b =>
      cases h1 : lessB x y with
      | true =>
        have h2 := less_asymm h1
        have z1 : aheadB (x :: a) (y :: b) = true := by show (!lessB y x) = true; rw [h2]; rfl
        have z2 : aheadB (y :: b) (x :: a) = false := by show (!lessB x y) = false; rw [h1]; rfl
        refine .inl ⟨x, a, rfl, ?_, ?_, fun q hq => ?_, ?_, ?_⟩
        · unfold nextL; rw [z1]; rfl
        · unfold nextL; rw [z2]; rfl
        · rw [List.mem_cons] at hq
          rcases hq with rfl | hq
          · exact h1
          · exact less_trans h1 (rises_head hb q hq)
        · unfold mkey; rw [z2]; rfl
        · unfold stepCh; rw [z1, z2]; rfl
      | false =>
        cases h2 : lessB y x with
        | true =>
          have z1 : aheadB (x :: a) (y :: b) = false := by show (!lessB y x) = false; rw [h2]; rfl
          have z2 : aheadB (y :: b) (x :: a) = true := by show (!lessB x y) = true; rw [h1]; rfl
          refine .inr (.inl ⟨y, b, rfl, ?_, ?_, fun q hq => ?_, ?_, ?_⟩)
          · unfold nextL; rw [z1]; rfl
          · unfold nextL; rw [z2]; rfl
          · rw [List.mem_cons] at hq
            rcases hq with rfl | hq
            · exact h2
            · exact less_trans h2 (rises_head ha q hq)
          · unfold mkey; rw [z2]; rfl
          · unfold stepCh; rw [z1, z2]; rfl
        | false =>
          have z1 : aheadB (x :: a) (y :: b) = true := by show (!lessB y x) = true; rw [h2]; rfl
          have z2 : aheadB (y :: b) (x :: a) = true := by show (!lessB x y) = true; rw [h1]; rfl
          refine .inr (.inr ⟨x, a, y, b, rfl, rfl, ?_, ?_, kL_eq h1 h2, ?_, ?_⟩)
          · unfold nextL; rw [z1]; rfl
          · unfold nextL; rw [z2]; rfl
          · unfold mkey; rw [z2]; rfl
          · unfold stepCh; rw [z1, z2]; rfl
def valK (ls : List LineD) (k : LineD) : List UInt8 := valueK ls k.head k.name k.leaf
theorem valK_self (x : LineD) (a : List LineD) {k : LineD} (h : kL k = kL x) : valK (x :: a) k = x.value := by
  unfold valK valueK
  have e1 : k.head = x.head := by have := congrArg LineD.head h; exact this
  have e2 : k.name = x.name := by have := congrArg LineD.name h; exact this
  have e3 : k.leaf = x.leaf := by have := congrArg LineD.leaf h; exact this
  rw [e1, e2, e3, List.find?_cons_of_pos (by unfold keyB; simp)]
theorem valK_less {x k : LineD} (a : List LineD) (h : lessB x k = true) : valK (x :: a) k = valK a k := by
  unfold valK valueK
  rw [List.find?_cons_of_neg (by
    have := less_key h
    unfold keyB
    simpa [and_assoc] using this)]
theorem valK_none {k : LineD} : ∀ {a : List LineD}, (∀ y ∈ a, lessB k y = true) → valK a k = [] := by
  intro a
  induction a with
  | nil => intro _; rfl
  | cons y a ih =>
    intro h
    have hy := h y (by simp)
    have e : valK (y :: a) k = valK a k := by
      unfold valK valueK
      rw [List.find?_cons_of_neg (by
        have := less_key hy
        unfold keyB
        intro e
        simp only [Bool.and_eq_true, decide_eq_true_eq] at e
        exact this ⟨e.1.1.symm, e.1.2.symm, e.2.symm⟩)]
    rw [e]; exact ih (fun q hq => h q (by simp [hq]))
theorem kL_less {x k l : LineD} (h : lessB x l = true) (e : k = kL l) : lessB x k = true := by rw [e]; exact h
theorem flat_eqM {α β : Type} {f g : α → List β} {l : List α} (h : ∀ x ∈ l, f x = g x) : l.flatMap f = l.flatMap g := by
  induction l with
  | nil => rfl
  | cons a l ih => rw [List.flatMap_cons, List.flatMap_cons, h a (by simp), ih (fun x hx => h x (by simp [hx]))]
theorem merge_all : ∀ (n : Nat) (a b : List LineD), rises a → rises b → a.length + b.length ≤ n →
    (∀ k, k ∈ mergeK n a b ↔ (∃ l ∈ a, k = kL l) ∨ ∃ l ∈ b, k = kL l) ∧ rises (mergeK n a b) ∧ mergeC n a b = (mergeK n a b).flatMap (fun k => oneCh k (valK a k) (valK b k)) := by
  intro n
  induction n with
  | zero =>
    intro a b _ _ h
    obtain rfl : a = [] := List.eq_nil_of_length_eq_zero (by omega)
    obtain rfl : b = [] := List.eq_nil_of_length_eq_zero (by omega)
    exact ⟨fun k => by simp [mergeK], trivial, rfl⟩
  | succ n ih =>
    intro a b ha hb h
    by_cases hne : a = [] ∧ b = []
    · obtain ⟨rfl, rfl⟩ := hne
      exact ⟨fun k => by simp [mergeK], by simp [mergeK, rises], by simp [mergeK, mergeC]⟩
    · rw [mergeK, mergeC, if_neg hne, if_neg hne]
      rcases step_cases ha hb hne with ⟨x, a', rfl, h1, h2, h3, h4, h5⟩ | ⟨y, b', rfl, h1, h2, h3, h4, h5⟩ | ⟨x, a', y, b', rfl, rfl, h1, h2, h3, h4, h5⟩
      · rw [h1, h2, h4, h5]
        obtain ⟨i1, i2, i3⟩ := ih a' b (rises_tail ha) hb (by simp at h; omega)
        have hbig : ∀ k ∈ mergeK n a' b, lessB x k = true := fun k hk => by
          rcases (i1 k).1 hk with ⟨l, hl, e⟩ | ⟨l, hl, e⟩
          · exact kL_less (rises_head ha l hl) e
          · exact kL_less (h3 l hl) e
        refine ⟨fun k => ?_, rises_of_head hbig i2, ?_⟩
        · rw [List.mem_cons, i1 k]
          simp only [List.mem_cons, exists_eq_or_imp, or_assoc]
        · rw [List.flatMap_cons, i3]
          have e1 : oneCh (kL x) (valK (x :: a') (kL x)) (valK b (kL x)) = oneCh x x.value [] := by
            rw [valK_self x a' (k := kL x) rfl, valK_none (a := b) (k := kL x) (fun y hy => h3 y hy)]; rfl
          rw [e1]
          congr 1
          exact flat_eqM (fun k hk => by rw [valK_less a' (hbig k hk)])
      · rw [h1, h2, h4, h5]
        obtain ⟨i1, i2, i3⟩ := ih a b' ha (rises_tail hb) (by simp at h; omega)
        have hbig : ∀ k ∈ mergeK n a b', lessB y k = true := fun k hk => by
          rcases (i1 k).1 hk with ⟨l, hl, e⟩ | ⟨l, hl, e⟩
          · exact kL_less (h3 l hl) e
          · exact kL_less (rises_head hb l hl) e
        refine ⟨fun k => ?_, rises_of_head hbig i2, ?_⟩
        · rw [List.mem_cons, i1 k]
          simp only [List.mem_cons, exists_eq_or_imp]
          constructor
          · rintro (h | h | h)
            · exact .inr (.inl h)
            · exact .inl h
            · exact .inr (.inr h)
          · rintro (h | h | h)
            · exact .inr (.inl h)
            · exact .inl h
            · exact .inr (.inr h)
        · rw [List.flatMap_cons, i3]
          have e1 : oneCh (kL y) (valK a (kL y)) (valK (y :: b') (kL y)) = oneCh y [] y.value := by
            rw [valK_self y b' (k := kL y) rfl, valK_none (a := a) (k := kL y) (fun x hx => h3 x hx)]; rfl
          rw [e1]
          congr 1
          exact flat_eqM (fun k hk => by rw [valK_less b' (hbig k hk)])
      · rw [h1, h2, h4, h5]
        obtain ⟨i1, i2, i3⟩ := ih a' b' (rises_tail ha) (rises_tail hb) (by simp at h; omega)
        have hx : ∀ k, lessB x k = lessB y k := fun k => by
          have : lessB (kL x) k = lessB (kL y) k := by rw [h3]
          exact this
        have hbig : ∀ k ∈ mergeK n a' b', lessB y k = true := fun k hk => by
          rcases (i1 k).1 hk with ⟨l, hl, e⟩ | ⟨l, hl, e⟩
          · rw [← hx]; exact kL_less (rises_head ha l hl) e
          · exact kL_less (rises_head hb l hl) e
        refine ⟨fun k => ?_, rises_of_head hbig i2, ?_⟩
        · rw [List.mem_cons, i1 k]
          simp only [List.mem_cons, exists_eq_or_imp]
          rw [h3]
          constructor
          · rintro (h | h | h)
            · exact .inl (.inl h)
            · exact .inl (.inr h)
            · exact .inr (.inr h)
          · rintro ((h | h) | (h | h))
            · exact .inl h
            · exact .inr (.inl h)
            · exact .inl h
            · exact .inr (.inr h)
        · rw [List.flatMap_cons, i3]
          have e1 : oneCh (kL y) (valK (x :: a') (kL y)) (valK (y :: b') (kL y)) = oneCh y x.value y.value := by
            rw [valK_self x a' (k := kL y) h3.symm, valK_self y b' (k := kL y) rfl]; rfl
          rw [e1]
          congr 1
          exact flat_eqM (fun k hk => by rw [valK_less a' (by rw [hx]; exact hbig k hk), valK_less b' (hbig k hk)])
/-- the document's changes -/
def docCh (a b : List LineD) : List ChD := (allK (a ++ b)).flatMap (fun k => oneCh k (valK a k) (valK b k))
theorem docCh_same {a b : List LineD} (ha : rises a) (hb : rises b) : docCh a b = mergeC (a.length + b.length) a b := by
  obtain ⟨h1, h2, h3⟩ := merge_all (a.length + b.length) a b ha hb (Nat.le_refl _)
  obtain ⟨j1, j2, j3⟩ := allK_from (a ++ b) [] trivial (fun q hq => by simp at hq)
  rw [h3]
  unfold docCh
  rw [rises_same (X := allK (a ++ b)) (Y := mergeK (a.length + b.length) a b) j1 h2 (fun k => by
    rw [h1 k]
    have := j3 k
    unfold allK
    rw [this]
    simp only [List.not_mem_nil, false_or, List.mem_append, or_and_right, exists_or])]
end Go.Proofs.YtmclnamgihphcaaGreat
/- Rows behind a full slice of rows: a new row. -/
set_option linter.unusedVariables false
set_option linter.unusedSimpArgs false
namespace Go.Proofs.YtmclnamgihphcaaGreat
open Go.RowKit

section
variable {α : Type} {sz : Nat} {cv : α → List Value}
theorem rows_first {P : Program} {w : World} {p : Option Addr} {n c : Nat} {xs : List α} (hcv : ∀ x, (cv x).length = sz) (h0 : 0 < sz) (h : RowsAt sz cv w (.slice p n c) xs) (w' : World) (hw : ∀ a u, w.cell? a = some u → w'.cell? a = some u) : (Builtin.firstCells sz n (.slice p n c)).run P w' = .ok (rowCells cv xs).toArray w' := by
  obtain rfl := h.len
  cases xs with
  | nil =>
    cases p with
    | none => exact run_firstCells_none w' sz 0 0 c
    | some a => exact run_firstCells_some w' sz 0 a 0 c [] (by simp) (fun j u hj => by simp at hj)
  | cons x xs =>
    obtain ⟨g, o, rfl, hr⟩ := h.open (by simp)
    refine run_firstCells_some w' sz _ ⟨g, o, none⟩ _ c (rowCells cv (x :: xs)) (rowCells_len hcv _) (fun j u hj => ?_)
    rw [Addr.add_mid]
    exact hw _ _ (rowCells_at (v := .slice (some ⟨g, o, none⟩) (x :: xs).length c) hcv h0 (x :: xs) hr j u hj)
/-- rows behind a slice that is full: a new row -/
theorem wp_append_full {P : Program} {w : World} {o : Oper} {a : Act} {K : Act → World → Prop} {Q : Exit → Act → World → Prop} (s x : Operand) (t e : TypeId)
    (ho : o.op = .call { callee := .builtin .append, args := #[s, x], argTypes := #[t, t] })
    (i : TypeInfo) (z : Value) (by_ : Nat) (ht : P.underlying t = some (.slice e)) (hi : P.info? e = some i) (hz : i.zero = some z) (hsize : i.size = sz) (hby : i.bytes = by_) (hzs : z.cells.size = sz) (hsz0 : 0 < sz) (hby1 : by_ ≤ 100000)
    (hcv : ∀ x, (cv x).length = sz) (h1 : ∀ (x : α), ∀ u ∈ cv x, u.oneCell' = true) (p : Option Addr) (xs : List α) (hs : a.eval s = .slice p xs.length xs.length) (hxs : RowsAt sz cv w (.slice p xs.length xs.length) xs) (q : Option Addr) (ys : List α) (c2 : Nat) (hx : a.eval x = .slice q ys.length c2) (hys : RowsAt sz cv w (.slice q ys.length c2) ys) (hy0 : 0 < ys.length) (hsz : xs.length + ys.length ≤ 1000000)
    (h : ∀ p c w', OwnR e sz cv w w' (.slice p (xs.length + ys.length) c) (xs ++ ys) → Keeps (fun _ => False) w w' → K (a.put o.dst (.slice p (xs.length + ys.length) c)) w') : Oper.wp P o a w K Q := by
  have hb : (xs.length + ys.length) * by_ ≤ 1000000 * 100000 := Nat.mul_le_mul hsz hby1
  have hsrc : Src P i.size t (.slice q ys.length c2) ys.length (rowCells cv ys) w := ⟨.inl ⟨e, ht⟩, fun _ => rfl, by rw [hsize]; exact rows_first hcv hsz0 hys w (fun _ _ h => h), by rw [hsize]; exact rows_first hcv hsz0 hys w.drew (fun _ _ h => h), by rw [hsize, rowCells_len hcv], fun u hu => by
    unfold rowCells at hu
    obtain ⟨y, _, hy⟩ := List.mem_flatMap.1 hu
    exact h1 y u hy⟩
  have hnx : Builtin.nextslicecap (xs.length + ys.length) xs.length * i.bytes ≤ 281474976710656 := by
    have : Builtin.nextslicecap (xs.length + ys.length) xs.length ≤ 4000000 := by
      have := nextslicecap_le_wide (need := xs.length + ys.length) (old := xs.length) (by omega)
      omega
    rw [hby]
    exact Nat.le_trans (Nat.mul_le_mul this hby1) (by omega)
  have hrun := run_append_grow_src (P := P) w t t o.type e i z ht hi hz p xs.length xs.length (rowCells cv xs) (by rw [hsize]; exact rows_first hcv hsz0 hxs w.drew (fun _ _ h => h)) (.slice q ys.length c2) ys.length (rowCells cv ys) hsrc (by omega) (by omega) hnx
  unfold Oper.wp execOp
  simp only [ho, resolve, invoke, builtin, Sem.run_bind, Sem.run_pure, Result.andThen_ok, List.map_toArray, List.map_cons, List.map_nil, hs, hx, hrun]
  have hge := grownCap_ge w (xs.length + ys.length) xs.length e
  have hmx := grownCap_le_maxLen w (xs.length + ys.length) xs.length e (by unfold maxLen; omega)
  refine h _ _ _ ⟨⟨by rw [rowCells_len hcv, List.length_append], .inr ⟨w.heap.size, _, _, by rw [List.length_append], Nat.zero_le _, heap_alloc_last w.drew _, by rw [List.length_append]; exact hge, hmx, ?_, ?_⟩⟩, fun k e => ?_, ?_⟩ (((Keeps.refl _ _).drew).alloc _)
  · simp only [Array.size_append, List.size_toArray, List.length_append, rowCells_len hcv, Builtin.zeroCells, Array.size_map, Array.size_range, hzs]
    rw [← Nat.add_mul, ← Nat.add_mul]
    congr 1
    omega
  · rw [Array.toList_append, List.take_append_of_le_length (by simp [rowCells_len hcv, Nat.add_mul]), List.take_of_length_le (by simp [rowCells_len hcv, Nat.add_mul]), rowCells_app]
  · have e : some w.heap.size = some k := e
    rw [← Option.some.inj e]; exact Nat.le_refl _
  · exact (((Keeps.refl (fun _ => False) w).drew).alloc _).size
end
end Go.Proofs.YtmclnamgihphcaaGreat
