/- The code's Value is the document's. -/
import Derived.Test.YtialookpnoaogaaGreatZZ17
import Derived.Test.YtialookpnoaogaaGreatZZ07
set_option linter.unusedVariables false
set_option linter.unusedSimpArgs false
set_option linter.unusedVariables false
set_option linter.unusedSimpArgs false
namespace Go.Proofs.YtialookpnoaogaaGreat
open Go.RowKit

theorem posL_key {x q : LineD} (h : q.head = x.head ∧ q.name = x.name ∧ q.leaf = x.leaf) : ∀ ls : List LineD, posL q ls = posL x ls := by
  intro ls
  induction ls with
  | nil => rfl
  | cons a ls ih =>
    have e : lessB a q = lessB a x := by unfold lessB; rw [h.1, h.2.1, h.2.2]
    rw [posL, posL, e, ih]
theorem thereB_key {x q : LineD} (h : q.head = x.head ∧ q.name = x.name ∧ q.leaf = x.leaf) (ls : List LineD) : thereB q ls = thereB x ls := by
  unfold thereB
  rw [posL_key h]
  cases ls[posL x ls]? with
  | none => rfl
  | some a =>
    have e : lessB q a = lessB x a := by unfold lessB; rw [h.1, h.2.1, h.2.2]
    simp [e]
theorem keyB_iff {h : Int} {n l : List UInt8} {q : LineD} : keyB h n l q = true ↔ q.head = h ∧ q.name = n ∧ q.leaf = l := by
  unfold keyB
  simp [Bool.and_eq_true, and_assoc]
theorem find_there {h : Int} {n l : List UInt8} {ls : List LineD} (hr : rises ls) (ht : thereB ⟨h, n, l, []⟩ ls = true) : ∃ q, ls[posL ⟨h, n, l, []⟩ ls]? = some q ∧ ls.find? (keyB h n l) = some q := by
  have ht2 := ht
  unfold thereB at ht2
  cases hq : ls[posL ⟨h, n, l, []⟩ ls]? with
  | none => rw [hq] at ht2; cases ht2
  | some q =>
    rw [hq] at ht2
    have h1 : lessB ⟨h, n, l, []⟩ q = false := by simpa using ht2
    have h2 := posL_at hq
    have hk := key_eq h2 h1
    refine ⟨q, rfl, find_first hq (fun j r hj hjr => ?_) (keyB_iff.2 hk)⟩
    have h3 := posL_lt hj hjr
    rw [Bool.eq_false_iff]
    intro e
    exact less_key h3 (keyB_iff.1 e)
theorem find_not {h : Int} {n l : List UInt8} {ls : List LineD} (hr : rises ls) (ht : thereB ⟨h, n, l, []⟩ ls = false) : ls.find? (keyB h n l) = none := by
  rw [List.find?_eq_none]
  intro q hq e
  have hk := keyB_iff.1 e
  have h1 := there_at hr hq
  rw [thereB_key (x := ⟨h, n, l, []⟩) hk] at h1
  rw [ht] at h1; cases h1
set_option maxRecDepth 100000 in
set_option maxHeartbeats 4000000 in
/-- a leaf that isn't set, and is none -/
theorem value_none (v : Value) (ls : List LineD) (h : Int) (N F : ByteArray) (w : World) (hv : Hid (RowsAt 4 lineVals w v ls)) (hl : ls.length ≤ 64) (hlt : Hid (LinesLt ls 9223372036854775807)) (hr : Hid (rightC ls = true))
    (hth : Hid (thereB ⟨h, N.data.toList, F.data.toList, []⟩ ls = false)) (hf : Hid (findD h F.data.toList = none)) :
    Calls Tryz.prog 37 #[v, .int .i64 h, .string N, .string F] w (NewRes (.string ⟨#[]⟩) w) := by
  obtain ⟨p, c, rfl⟩ := hv.out.slice
  have hLn := Lib.hid hv.out.lines
  obtain ⟨at', hat⟩ : ∃ k, posL ⟨h, N.data.toList, F.data.toList, []⟩ ls = k := ⟨_, rfl⟩
  have hat' := Lib.hid hat
  clear hat hv
  go_enter Tryz.func37, Tryz.ntmps37
  go_wp2_with fail
  refine (right_c _ ls true _ hLn (by omega) hlt hr).mono ?_
  rintro e w2 ⟨rfl, k2⟩
  have k2' := Lib.hid k2; clear k2
  go_wp2_with fail
  refine (find_c _ ls h N F ⟨#[]⟩ at' false _ (Lib.hid (hLn.out.keep k2'.out (fun _ _ _ f => f))) (by omega) hat' hth).mono ?_
  rintro e w3 ⟨rfl, k3⟩
  have k3' := Lib.hid (k2'.out.trans k3)
  clear k3 k2' hLn
  go_wp2_with fail
  refine (find_no h F _ hf).mono ?_
  rintro e w5 ⟨rfl, k5⟩
  have k5' := Lib.hid (k3'.out.trans k5)
  clear k5 k3'
  have c6 := (show (w5.alloc (.cells #[.int .i64 0, .string ⟨#[]⟩, .int .i64 0, .int .i64 0, .int .i64 0, .slice none 0 0, .string ⟨#[]⟩, .int .i64 0] 147)).cell? ⟨w5.heap.size, 6, none⟩ = some (.string ⟨#[]⟩) by simp [go_sem])
  go_wp2_with ((with_reducible refine at_store 11 ?_); refine wpList_store_new rfl 147 (.tmp 11) (.tmp 35) rfl _ #[.int .i64 0, .string ⟨#[]⟩, .int .i64 0, .int .i64 0, .int .i64 0, .slice none 0 0, .string ⟨#[]⟩, .int .i64 0] rfl rfl rowInfo rfl (row_one _ _ _ _ _ _ _ _ _ _) ?_)
  go_ret
  exact ⟨rfl, k5'.out.alloc _⟩
/-- Value of a right configuration, whatever is asked -/
theorem value_any (v : Value) (ls : List LineD) (h : Int) (N F V : ByteArray) (w : World) (hv : Hid (RowsAt 4 lineVals w v ls)) (hr : Hid (rightC ls = true)) (hV : Hid (V = ⟨(valueR ls h N.data.toList F.data.toList).toArray⟩)) :
    Calls Tryz.prog 37 #[v, .int .i64 h, .string N, .string F] w (NewRes (.string V) w) := by
  have hl := right_len hr.out
  have hlt := Lib.hid (right_lt hr.out 9223372036854775807 (by omega))
  have hrs := right_rises hr.out
  cases ht : thereB ⟨h, N.data.toList, F.data.toList, []⟩ ls with
  | true =>
    obtain ⟨q, h1, h2⟩ := find_there hrs ht
    exact value_there v ls q h N F V w hv hl hlt hr (Lib.hid ht) (Lib.hid h1) (Lib.hid (by rw [hV.out]; unfold valueR; rw [h2]))
  | false =>
    have h2 := find_not hrs ht
    cases hf : findD h F.data.toList with
    | some r => exact value_default v ls r h N F V w hv hl hlt hr (Lib.hid ht) (Lib.hid hf) (Lib.hid (by rw [hV.out]; unfold valueR; rw [h2, hf]))
    | none =>
      have e : V = ⟨#[]⟩ := by rw [hV.out]; unfold valueR; rw [h2, hf]
      rw [e]
      exact value_none v ls h N F w hv hl hlt hr (Lib.hid ht) (Lib.hid hf)
end Go.Proofs.YtialookpnoaogaaGreat
/- The document's Names, walked; they are the code's (gen_cgp.py). -/
set_option linter.unusedVariables false
set_option linter.unusedSimpArgs false
namespace Go.Proofs.YtialookpnoaogaaGreat
open Go.RowKit

def stepN (h : Int) (o : List (List UInt8)) (q : LineD) : List (List UInt8) := if q.head = h ∧ o.getLast? ≠ some q.name then o ++ [q.name] else o
def nR (h : Int) (ls : List LineD) (k : Nat) : List (List UInt8) := (ls.take k).foldl (stepN h) []
theorem nR_step {h : Int} {q : LineD} {ls : List LineD} {k : Nat} (hq : ls[k]? = some q) : nR h ls (k + 1) = stepN h (nR h ls k) q := by
  obtain ⟨hk, e⟩ := List.getElem?_eq_some_iff.1 hq
  unfold nR
  rw [List.take_succ_eq_append_getElem hk, e, List.foldl_append]; rfl
theorem nR_len (h : Int) (ls : List LineD) : ∀ k, (nR h ls k).length ≤ k := by
  intro k
  induction k with
  | zero => simp [nR]
  | succ k ih =>
    by_cases hk : k < ls.length
    · rw [nR_step (List.getElem?_eq_getElem hk)]
      unfold stepN
      split
      · simp; omega
      · omega
    · have : nR h ls (k + 1) = nR h ls k := by unfold nR; rw [List.take_of_length_le (by omega), List.take_of_length_le (by omega)]
      rw [this]; omega

set_option maxRecDepth 100000 in
set_option maxHeartbeats 8000000 in
theorem rNames_c (v : Value) (ls : List LineD) (h : Int) (w : World) (hv : Hid (RowsAt 4 lineVals w v ls)) (hr : Hid (rightC ls = true)) (h0 : h ≠ 0) :
    Calls Tryz.prog 29 #[v, .int .i64 h] w (NamesPost (nR h ls ls.length) w) := by
  have hlen := right_len hr.out
  have hlt := Lib.hid (right_lt hr.out 8796093022000 (by omega))
  obtain ⟨p, c, rfl⟩ := hv.out.slice
  obtain ⟨i0, hi0, hi1, hi2, hi3⟩ := strAll
  have hLn := Lib.hid hv.out.lines
  have e0 : (h == 0) = false := by simpa using h0
  clear h0
  go_enter Tryz.func29, Tryz.ntmps29
  go_wp2_with fail
  refine (rRight_c _ ls true _ hLn (by omega) hlt hr).mono ?_
  rintro e w2 ⟨rfl, k2⟩
  have k2' := Lib.hid k2
  have hv2 := Lib.hid (hv.out.keep k2)
  clear k2 hLn hr hlt
  go_wp2_with fail
  go_loopw [6, 5] (fun iv nv wr => ∃ (k : Nat) (q : Option Addr) (d : Nat), k ≤ ls.length ∧ iv = .int .i64 k ∧ nv = .slice q (nR h ls k).length d ∧ Hid (OwnR 9 1 nv1 w2 wr nv (nR h ls k)) ∧ Hid (Keeps (fun _ => False) w2 wr)) (fun iv _ _ => ls.length - (intOf iv).toNat)
  case atStart => exact ⟨0, none, 0, by omega, rfl, rfl, Lib.hid (OwnR.nil _ _ (Nat.le_refl _)), Lib.hid (Keeps.refl _ _)⟩
  case round =>
    obtain ⟨k, qa, d, hk, rfl, rfl, hO, hKw⟩ := hrel
    have hnl := nR_len h ls k
    generalize hnk : nR h ls k = D at hO hnl ⊢
    have hnk' := Lib.hid hnk
    clear hnk
    by_cases hlk : k < ls.length
    · obtain ⟨g, o, rfl, hrows⟩ := hv2.out.open (by omega)
      obtain ⟨q, hq⟩ : ∃ q, ls[k]? = some q := ⟨_, List.getElem?_eq_getElem hlk⟩
      obtain ⟨Nq, hN⟩ : ∃ N : ByteArray, N = ⟨q.name.toArray⟩ := ⟨_, rfl⟩
      obtain ⟨Fq, hF⟩ : ∃ N : ByteArray, N = ⟨q.leaf.toArray⟩ := ⟨_, rfl⟩
      obtain ⟨Vq, hVq⟩ : ∃ N : ByteArray, N = ⟨q.value.toArray⟩ := ⟨_, rfl⟩
      have hrow : Hid (wr.rangeAt g (o + k * 4) [.int .i64 q.head, .string Nq, .string Fq, .string Vq]) := Lib.hid (by rw [hN, hF, hVq]; exact hKw.out.rangeAt (hrows k q hq) id)
      have hNl : Hid (Nq.data.toList = q.name) := Lib.hid (by rw [hN])
      have hstep := Lib.hid (nR_step (h := h) hq)
      rw [hnk'.out] at hstep
      have hnl' := Lib.hid hnl
      have m1 : (0 : Int) ≤ (k : Int) := by omega
      have m2 : (k : Int) < (ls.length : Int) := by omega
      clear hrows hN hF hVq hq hnk' hnl
      by_cases a1 : q.head = h
      · have e1 : (q.head == h) = true := by simp [a1]
        have a1' := Lib.hid a1; clear a1
        cases D with
        | nil =>
          go_upto_region 7 with fail
          refine wp_region_noPanic ?_
          refine wp_region_held_drew (S := (fun W => Keeps (fun _ => False) wr W)) (by kernel_rfl) (((Keeps.refl _ _).drew)) (fun hHeld => ?_)
          refine tk 0 rfl ?_
          refine tk 1 rfl ?_
          refine tk 2 rfl ?_
          refine tk 3 rfl ?_
          refine tkL 4 rfl (yieldsIf_load_cell (by rfl) 3 (.tmp 23) rfl g (o + k * 4 + 0) rfl _ (fun _ s => s.rangeAt hrow.out id 0 _ rfl) (fun w s => load_int w _ _ _ s)) ?_
          refine tk 5 rfl ?_
          refine tk 6 rfl ?_
          refine tk 7 rfl ?_
          refine tk 8 rfl ?_
          refine tk 9 rfl ?_
          refine tk 10 rfl ?_
          refine tk 11 rfl ?_
          refine tkS 12 rfl ?_
          refine tkS 13 rfl ?_
          refine tkS 14 rfl ?_
          refine tkS 15 rfl ?_
          refine tkS 16 rfl ?_
          refine tkS 17 rfl ?_
          refine tkS 18 rfl ?_
          refine tkS 19 rfl ?_
          refine tkS 20 rfl ?_
          refine tkS 21 rfl ?_
          refine tkS 22 rfl ?_
          refine tkS 23 rfl ?_
          refine tk 24 rfl ?_
          refine tk 25 rfl ?_
          refine wpAnyH_done (by kernel_rfl) (NoPanic.normal ?_) _
          have hkk := Lib.hid (hKw.out.trans hHeld)
          have hOk := Lib.hid (hO.out.keep hHeld (fun _ _ f => f))
          have hrk := Lib.hid (hHeld.rangeAt hrow.out id)
          have hsame : Hid (nR h ls (k + 1) = [] ++ [Nq.data.toList]) := Lib.hid (by rw [hstep.out]; unfold stepN; rw [if_pos ⟨a1'.out, by simp⟩, hNl.out])
          clear hHeld
          generalize wr.drew = Wr at hkk hOk hrk ⊢
          have cN : Wr.cell? ⟨g, o + k * 4 + 1, none⟩ = some (.string Nq) := hrk.out 1 _ rfl
          go_wp2_with ((with_reducible refine at_slot 53 ?_); go_must (refine wpList_append_r rfl (.tmp 46) (.tmp 52) 57 9 rfl i0 _ 16 Tryz.underlying57 hi0 hi1 hi2 hi3 rfl (by decide) (by decide) (fun _ => rfl) w2 _ (0) ([]) rfl rfl (hOk.out.keep ((Keeps.refl (fun _ => False) _).alloc _) (fun _ _ f => f)) _ rfl Nq.data.toList (cells_new rfl [.string Nq] _) (fun u hu => (by simp [nv1] at hu; subst hu; rfl)) (by first | omega | (have := hnl'.out; omega) | (have := hnl'.out; have := hj'.out; omega)) ?_); intro q8 d8 w8 hO8 hg8)
          have hk8 := Lib.hid (OwnR.keeps (hOk.out.keep ((Keeps.refl (fun _ => False) _).alloc _) (fun _ _ f => f)) (hkk.out.alloc _) hg8.out)
          refine ⟨⟨k + 1, q8, d8, by omega, by go_num, by rw [hsame.out, List.length_append]; rfl, by rw [hsame.out]; exact hO8, hk8⟩, by simp [intOf]; omega⟩
        | cons x D =>
          obtain ⟨j, hj⟩ : ∃ j, (x :: D).length = j + 1 := ⟨D.length, rfl⟩
          obtain ⟨y, hy⟩ : ∃ y, (x :: D)[j]? = some y := ⟨_, List.getElem?_eq_getElem (by omega)⟩
          have hlast : Hid ((x :: D).getLast? = some y) := Lib.hid (by rw [List.getLast?_eq_getElem?, hj]; simpa using hy)
          obtain ⟨Ny, hNy⟩ : ∃ N : ByteArray, N = ⟨y.toArray⟩ := ⟨_, rfl⟩
          have hNyl : Hid (Ny.data.toList = y) := Lib.hid (by rw [hNy])
          have hRD := OwnR.at (cv := nv1) (sz := 1) (fun _ => rfl) hO.out
          obtain ⟨g5, o5, rfl, hrow5⟩ := hRD.open (by simp)
          have hcy : Hid (wr.cell? ⟨g5, o5 + j, none⟩ = some (.string Ny)) := Lib.hid (by
            have := hrow5 j y hy 0 _ rfl
            rw [Nat.mul_one, Nat.add_zero] at this
            rw [hNy]; exact this)
          generalize hxD : x :: D = D2 at hO hstep hnl' hlast hj ⊢
          rw [hj] at hO ⊢
          have hj' := Lib.hid hj
          have l1 : IntKind.i64.wrap (j : Int) = (j : Int) := IntWalk.i64_in _ (by have := hnl'.out; omega)
          have l3 : (0 : Int) ≤ (j : Int) := by omega
          have l6 : ((j : Int) + 1 == 0) = false := by simp; omega
          have l7 : (j : Int) < (j : Int) + 1 := by omega
          have hjl := hnl'.out
          clear hRD hrow5 hxD hy hNy hj
          by_cases a2 : Ny.data.toList = Nq.data.toList
          · have e2 := beq_list a2
            have a2' := Lib.hid a2; clear a2
            go_upto_region 7 with fail
            refine wp_region_noPanic ?_
            refine wp_region_held_drew (S := (fun W => Keeps (fun _ => False) wr W)) (by kernel_rfl) (((Keeps.refl _ _).drew)) (fun hHeld => ?_)
            refine tk 0 rfl ?_
            refine tk 1 rfl ?_
            refine tk 2 rfl ?_
            refine tk 3 rfl ?_
            refine tkL 4 rfl (yieldsIf_load_cell (by rfl) 3 (.tmp 23) rfl g (o + k * 4 + 0) rfl _ (fun _ s => s.rangeAt hrow.out id 0 _ rfl) (fun w s => load_int w _ _ _ s)) ?_
            refine tk 5 rfl ?_
            refine tk 6 rfl ?_
            refine tk 7 rfl ?_
            refine tk 8 rfl ?_
            refine tk 9 rfl ?_
            refine tk 10 rfl ?_
            refine tk 11 rfl ?_
            refine tk 12 rfl ?_
            refine tk 13 rfl ?_
            refine tk 14 rfl ?_
            refine tk 15 rfl ?_
            refine tk 16 rfl ?_
            refine tkL 17 rfl (yieldsIf_load_cell (by rfl) 9 (.tmp 36) rfl g5 (o5 + j) rfl _ (fun _ s => by rw [s.cell (p := ⟨g5, o5 + j, none⟩) (World.block_lt_of_cell? wr _ hcy.out) id]; exact hcy.out) (fun w s => load_str w _ _ _ s)) ?_
            refine tk 18 rfl ?_
            refine tk 19 rfl ?_
            refine tk 20 rfl ?_
            refine tk 21 rfl ?_
            refine tkL 22 rfl (yieldsIf_load_cell (by rfl) 9 (.tmp 41) rfl g (o + k * 4 + 1) rfl _ (fun _ s => s.rangeAt hrow.out id 1 _ rfl) (fun w s => load_str w _ _ _ s)) ?_
            refine tk 23 rfl ?_
            refine tk 24 rfl ?_
            refine tk 25 rfl ?_
            refine wpAnyH_done (by kernel_rfl) (NoPanic.normal ?_) _
            have hkk := Lib.hid (hKw.out.trans hHeld)
            have hOk := Lib.hid (hO.out.keep hHeld (fun _ _ f => f))
            have hsame : Hid (nR h ls (k + 1) = D2) := Lib.hid (by rw [hstep.out]; unfold stepN; rw [if_neg (fun e => e.2 (by rw [hlast.out, ← hNyl.out, ← hNl.out, a2'.out]))])
            clear hHeld
            go_wp2_with fail
            refine ⟨⟨k + 1, _, d, by omega, by go_num, by rw [hsame.out, hj'.out], by rw [hsame.out]; exact hOk, hkk⟩, by simp [intOf]; omega⟩
          · have e2 := bne_list a2
            have a2' := Lib.hid a2; clear a2
            go_upto_region 7 with fail
            refine wp_region_noPanic ?_
            refine wp_region_held_drew (S := (fun W => Keeps (fun _ => False) wr W)) (by kernel_rfl) (((Keeps.refl _ _).drew)) (fun hHeld => ?_)
            refine tk 0 rfl ?_
            refine tk 1 rfl ?_
            refine tk 2 rfl ?_
            refine tk 3 rfl ?_
            refine tkL 4 rfl (yieldsIf_load_cell (by rfl) 3 (.tmp 23) rfl g (o + k * 4 + 0) rfl _ (fun _ s => s.rangeAt hrow.out id 0 _ rfl) (fun w s => load_int w _ _ _ s)) ?_
            refine tk 5 rfl ?_
            refine tk 6 rfl ?_
            refine tk 7 rfl ?_
            refine tk 8 rfl ?_
            refine tk 9 rfl ?_
            refine tk 10 rfl ?_
            refine tk 11 rfl ?_
            refine tk 12 rfl ?_
            refine tk 13 rfl ?_
            refine tk 14 rfl ?_
            refine tk 15 rfl ?_
            refine tk 16 rfl ?_
            refine tkL 17 rfl (yieldsIf_load_cell (by rfl) 9 (.tmp 36) rfl g5 (o5 + j) rfl _ (fun _ s => by rw [s.cell (p := ⟨g5, o5 + j, none⟩) (World.block_lt_of_cell? wr _ hcy.out) id]; exact hcy.out) (fun w s => load_str w _ _ _ s)) ?_
            refine tk 18 rfl ?_
            refine tk 19 rfl ?_
            refine tk 20 rfl ?_
            refine tk 21 rfl ?_
            refine tkL 22 rfl (yieldsIf_load_cell (by rfl) 9 (.tmp 41) rfl g (o + k * 4 + 1) rfl _ (fun _ s => s.rangeAt hrow.out id 1 _ rfl) (fun w s => load_str w _ _ _ s)) ?_
            refine tk 23 rfl ?_
            refine tk 24 rfl ?_
            refine tk 25 rfl ?_
            refine wpAnyH_done (by kernel_rfl) (NoPanic.normal ?_) _
            have hkk := Lib.hid (hKw.out.trans hHeld)
            have hOk := Lib.hid (hO.out.keep hHeld (fun _ _ f => f))
            have hrk := Lib.hid (hHeld.rangeAt hrow.out id)
            have hsame : Hid (nR h ls (k + 1) = D2 ++ [Nq.data.toList]) := Lib.hid (by rw [hstep.out]; unfold stepN; rw [if_pos ⟨a1'.out, fun e => a2'.out (by rw [hlast.out] at e; injection e with e; rw [hNyl.out, hNl.out, e])⟩, hNl.out])
            clear hHeld
            generalize wr.drew = Wr at hkk hOk hrk ⊢
            have cN : Wr.cell? ⟨g, o + k * 4 + 1, none⟩ = some (.string Nq) := hrk.out 1 _ rfl
            go_wp2_with ((with_reducible refine at_slot 53 ?_); go_must (refine wpList_append_r rfl (.tmp 46) (.tmp 52) 57 9 rfl i0 _ 16 Tryz.underlying57 hi0 hi1 hi2 hi3 rfl (by decide) (by decide) (fun _ => rfl) w2 _ (j + 1) (D2) hj'.out rfl (hOk.out.keep ((Keeps.refl (fun _ => False) _).alloc _) (fun _ _ f => f)) _ rfl Nq.data.toList (cells_new rfl [.string Nq] _) (fun u hu => (by simp [nv1] at hu; subst hu; rfl)) (by first | omega | (have := hnl'.out; omega) | (have := hnl'.out; have := hj'.out; omega)) ?_); intro q8 d8 w8 hO8 hg8)
            have hk8 := Lib.hid (OwnR.keeps (hOk.out.keep ((Keeps.refl (fun _ => False) _).alloc _) (fun _ _ f => f)) (hkk.out.alloc _) hg8.out)
            refine ⟨⟨k + 1, q8, d8, by omega, by go_num, by rw [hsame.out, List.length_append]; rw [hj'.out]; rfl, by rw [hsame.out]; exact hO8, hk8⟩, by simp [intOf]; omega⟩
      · have e1 : (q.head == h) = false := by simp [a1]
        have a1' := Lib.hid a1; clear a1
        go_upto_region 7 with fail
        refine wp_region_noPanic ?_
        refine wp_region_held_drew (S := (fun W => Keeps (fun _ => False) wr W)) (by kernel_rfl) (((Keeps.refl _ _).drew)) (fun hHeld => ?_)
        refine tk 0 rfl ?_
        refine tk 1 rfl ?_
        refine tk 2 rfl ?_
        refine tk 3 rfl ?_
        refine tkL 4 rfl (yieldsIf_load_cell (by rfl) 3 (.tmp 23) rfl g (o + k * 4 + 0) rfl _ (fun _ s => s.rangeAt hrow.out id 0 _ rfl) (fun w s => load_int w _ _ _ s)) ?_
        refine tk 5 rfl ?_
        refine tk 6 rfl ?_
        refine tk 7 rfl ?_
        refine tkS 8 rfl ?_
        refine tkS 9 rfl ?_
        refine tkS 10 rfl ?_
        refine tkS 11 rfl ?_
        refine tkS 12 rfl ?_
        refine tkS 13 rfl ?_
        refine tkS 14 rfl ?_
        refine tkS 15 rfl ?_
        refine tkS 16 rfl ?_
        refine tkS 17 rfl ?_
        refine tkS 18 rfl ?_
        refine tkS 19 rfl ?_
        refine tkS 20 rfl ?_
        refine tkS 21 rfl ?_
        refine tkS 22 rfl ?_
        refine tkS 23 rfl ?_
        refine tkS 24 rfl ?_
        refine tk 25 rfl ?_
        refine wpAnyH_done (by kernel_rfl) (NoPanic.normal ?_) _
        have hkk := Lib.hid (hKw.out.trans hHeld)
        have hOk := Lib.hid (hO.out.keep hHeld (fun _ _ f => f))
        have hsame : Hid (nR h ls (k + 1) = D) := Lib.hid (by rw [hstep.out]; unfold stepN; rw [if_neg (fun e => a1'.out e.1)])
        clear hHeld
        go_wp2_with fail
        refine ⟨⟨k + 1, qa, d, by omega, by go_num, by rw [hsame.out], by rw [hsame.out]; exact hOk, hkk⟩, by simp [intOf]; omega⟩
    · obtain rfl : k = ls.length := by omega
      have hfin := Lib.hid (k2'.out.trans hKw.out)
      have hO' := Lib.hid (hO.out.older (w0 := w) k2'.out.size)
      clear hnl hO hKw
      go_wp2_with fail
      go_ret
      show NamesPost (nR h ls ls.length) w _ _
      rw [hnk'.out]
      exact ⟨qa, d, rfl, hO'.out, hfin.out⟩
end Go.Proofs.YtialookpnoaogaaGreat
/- Both Names are the same, plain. -/
set_option linter.unusedVariables false
set_option linter.unusedSimpArgs false
namespace Go.Proofs.YtialookpnoaogaaGreat
open Go.RowKit

theorem less_head {a b : LineD} (h : lessB a b = true) : a.head ≤ b.head := by
  rw [lessB_iff] at h
  rcases h with h | ⟨h, _⟩ <;> omega
theorem names_both (h : Int) {ls : List LineD} (hr : rises ls) : ∀ k, k ≤ ls.length → nR h ls k = namesFrom h none (ls.take k) ∧
    (k = 0 → nR h ls k = []) ∧ ∀ j p, k = j + 1 → ls[j]? = some p → (p.head = h → (nR h ls k).getLast? = some p.name) ∧ (p.head < h → nR h ls k = []) := by
  intro k
  induction k with
  | zero => intro _; exact ⟨rfl, fun _ => rfl, fun j p e => by omega⟩
  | succ k ih =>
    intro hk
    obtain ⟨i1, i2, i3⟩ := ih (by omega)
    obtain ⟨q, hq⟩ : ∃ q, ls[k]? = some q := ⟨_, List.getElem?_eq_getElem (by omega)⟩
    have hs1 := nR_step (h := h) hq
    have hs2 := names_step (h := h) hq
    generalize nR h ls k = o at i1 i2 i3 hs1
    generalize nR h ls (k + 1) = o2 at hs1 ⊢
    subst hs1
    -- are both of one mind?
    have hmind : q.head = h → (newName h (prevOf ls k) q = true ↔ o.getLast? ≠ some q.name) := fun hh => by
      cases k with
      | zero =>
        have ho := i2 rfl
        subst ho
        simp [newName, prevOf, hh]
      | succ j =>
        obtain ⟨p, hp⟩ : ∃ p, ls[j]? = some p := ⟨_, List.getElem?_eq_getElem (by omega)⟩
        obtain ⟨j1, j2⟩ := i3 j p rfl hp
        have hle := less_head (rises_at hr j p q hp hq)
        have hpv : prevOf ls (j + 1) = some p := hp
        rw [hpv]
        by_cases e : p.head = h
        · rw [j1 e]
          unfold newName
          simp [hh, e]
        · have ho := j2 (by omega)
          subst ho
          unfold newName
          simp [hh, e]
    refine ⟨?_, fun e => by omega, fun j p e hp => ?_⟩
    · rw [hs2, ← i1]
      unfold stepN
      by_cases hh : q.head = h
      · by_cases hm : o.getLast? = some q.name
        · rw [if_neg (fun e => e.2 hm), if_neg (fun e => ((hmind hh).1 e) hm), List.append_nil]
        · rw [if_pos ⟨hh, hm⟩, if_pos ((hmind hh).2 hm)]
      · rw [if_neg (fun e => hh e.1), if_neg (by unfold newName; simp [hh]), List.append_nil]
    · obtain rfl : k = j := by omega
      rw [hq] at hp; injection hp with hp; subst hp
      unfold stepN
      refine ⟨fun hh => ?_, fun hlt => ?_⟩
      · by_cases hm : o.getLast? = some q.name
        · rw [if_neg (fun e => e.2 hm)]; exact hm
        · rw [if_pos ⟨hh, hm⟩]; simp
      · rw [if_neg (fun e => by have := e.1; omega)]
        cases k with
        | zero => exact i2 rfl
        | succ i =>
          obtain ⟨p, hp⟩ : ∃ p, ls[i]? = some p := ⟨_, List.getElem?_eq_getElem (by omega)⟩
          have hle := less_head (rises_at hr i p q hp hq)
          exact (i3 i p rfl hp).2 (by omega)
theorem names_same (h : Int) {ls : List LineD} (hr : rises ls) : nR h ls ls.length = namesFrom h none ls := by
  have := (names_both h hr ls.length (Nat.le_refl _)).1
  rwa [List.take_length] at this
end Go.Proofs.YtialookpnoaogaaGreat
/- Names of a right configuration, both sides (gen_run.py: the last part of CHA, for a seat without Set). -/
set_option linter.unusedVariables false
set_option linter.unusedSimpArgs false
namespace Go.Proofs.YtialookpnoaogaaGreat
open Go.RowKit

def namesA (h : Int) (ls : List LineD) : List (List UInt8) := if h = 0 then [] else namesFrom h none ls
theorem namesA_len (h : Int) (ls : List LineD) : (namesA h ls).length ≤ ls.length := by
  unfold namesA
  split
  · simp
  · exact names_len_le h ls none
def NamesP (xs : List (List UInt8)) (w : World) (e : Ending) (w' : World) : Prop :=
  ∃ p c, e = .returned (.slice p xs.length c) ∧ StrsAt w' (.slice p xs.length c) xs ∧ Keeps (fun _ => False) w w'
theorem rows_strs {w : World} {v : Value} {xs : List (List UInt8)} (h : RowsAt 1 nv1 w v xs) : StrsAt w v xs := by
  obtain ⟨p, c, rfl, -, -, hr⟩ := h
  refine ⟨p, c, rfl, fun h0 => ?_⟩
  obtain ⟨g, o, rfl, hr2⟩ := hr h0
  refine ⟨g, o, rfl, fun j u hu => ?_⟩
  rw [List.getElem?_map] at hu
  cases hx : xs[j]? with
  | none => rw [hx] at hu; cases hu
  | some x =>
    rw [hx] at hu
    injection hu with hu
    have := hr2 j x hx 0 u (by rw [← hu]; rfl)
    rw [Nat.mul_one, Nat.add_zero] at this
    exact this
theorem nv1_len (x : List UInt8) : (nv1 x).length = 1 := rfl

set_option maxRecDepth 100000 in
set_option maxHeartbeats 2000000 in
theorem names_all (v : Value) (ls : List LineD) (h : Int) (w : World) (hv : Hid (RowsAt 4 lineVals w v ls)) (hr : Hid (rightC ls = true)) :
    Calls Tryz.prog 19 #[v, .int .i64 h] w (NamesP (namesA h ls) w) := by
  by_cases h0 : h = 0
  · subst h0
    have e : namesA 0 ls = [] := rfl
    rw [e]
    obtain ⟨p, c, rfl⟩ := hv.out.slice
    go_enter Tryz.func19, Tryz.ntmps19
    go_wp2_with fail
    go_ret
    exact ⟨none, 0, rfl, ⟨none, 0, rfl, fun h => absurd h (by simp)⟩, Keeps.refl _ _⟩
  · have e : namesA h ls = namesFrom h none ls := if_neg h0
    rw [e]
    refine (names_any v ls h w hv (right_len hr.out) (Lib.hid (right_lt hr.out 9223372036854775807 (by omega))) hr h0).mono ?_
    rintro e w2 ⟨p, c, rfl, hO, k⟩
    exact ⟨p, c, rfl, rows_strs (hO.at nv1_len), k⟩
set_option maxRecDepth 100000 in
set_option maxHeartbeats 2000000 in
theorem rNames_all (v : Value) (ls : List LineD) (h : Int) (w : World) (hv : Hid (RowsAt 4 lineVals w v ls)) (hr : Hid (rightC ls = true)) :
    Calls Tryz.prog 29 #[v, .int .i64 h] w (NamesP (namesA h ls) w) := by
  by_cases h0 : h = 0
  · subst h0
    have e : namesA 0 ls = [] := rfl
    rw [e]
    obtain ⟨p, c, rfl⟩ := hv.out.slice
    have hLn := Lib.hid hv.out.lines
    have hlen := right_len hr.out
    have hlt := Lib.hid (right_lt hr.out 8796093022000 (by omega))
    go_enter Tryz.func29, Tryz.ntmps29
    go_wp2_with fail
    refine (rRight_c _ ls true _ hLn (by omega) hlt hr).mono ?_
    rintro e w2 ⟨rfl, k2⟩
    have k2' := Lib.hid k2; clear k2
    go_wp2_with fail
    go_ret
    exact ⟨none, 0, rfl, ⟨none, 0, rfl, fun h => absurd h (by simp)⟩, k2'.out⟩
  · have e : namesA h ls = nR h ls ls.length := (if_neg h0).trans (names_same h (right_rises hr.out)).symm
    rw [e]
    refine (rNames_c v ls h w hv hr h0).mono ?_
    rintro e w2 ⟨p, c, rfl, hO, k⟩
    exact ⟨p, c, rfl, rows_strs (hO.at nv1_len), k⟩
end Go.Proofs.YtialookpnoaogaaGreat
