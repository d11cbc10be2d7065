/- The document's Names, walked; they are the code's (gen_cgp.py). -/
import Derived.Test.YtialookpnoaogaaGreatAA10
import Derived.Test.YtialookpnoaogaaGreatAA04
import Derived.Maps.RangeWalk
import Derived.Test.YtialookpnoaogaaGreatAA05
import Derived.Test.YtialookpnoaogaaGreatAA02
import Derived.StillTailTactics
set_option linter.unusedVariables false
set_option linter.unusedSimpArgs false
set_option linter.unusedVariables false
set_option linter.unusedSimpArgs false
namespace Go.Proofs.YtialookpnoaogaaGreat
open Go.RowKit

def stepN (h : Int) (o : List (List UInt8)) (q : LineD) : List (List UInt8) := if q.head = h ∧ o.getLast? ≠ some q.name then o ++ [q.name] else o
def nR (h : Int) (ls : List LineD) (k : Nat) : List (List UInt8) := (ls.take k).foldl (stepN h) []
theorem nR_step {h : Int} {q : LineD} {ls : List LineD} {k : Nat} (hq : ls[k]? = some q) : nR h ls (k + 1) = stepN h (nR h ls k) q := by
  obtain ⟨hk, e⟩ := List.getElem?_eq_some_iff.1 hq
  unfold nR
  rw [List.take_succ_eq_append_getElem hk, e, List.foldl_append]; rfl
theorem nR_len (h : Int) (ls : List LineD) : ∀ k, (nR h ls k).length ≤ k := by
  intro k
  induction k with
  | zero => simp [nR]
  | succ k ih =>
    by_cases hk : k < ls.length
    · rw [nR_step (List.getElem?_eq_getElem hk)]
      unfold stepN
      split
      · simp; omega
      · omega
    · have : nR h ls (k + 1) = nR h ls k := by unfold nR; rw [List.take_of_length_le (by omega), List.take_of_length_le (by omega)]
      rw [this]; omega

set_option maxRecDepth 100000 in
set_option maxHeartbeats 8000000 in
theorem rNames_c (v : Value) (ls : List LineD) (h : Int) (w : World) (hv : Hid (RowsAt 4 lineVals w v ls)) (hr : Hid (rightC ls = true)) (h0 : h ≠ 0) :
    Calls Tryz.prog 29 #[v, .int .i64 h] w (NamesPost (nR h ls ls.length) w) := by
  have hlen := right_len hr.out
  have hlt := Lib.hid (right_lt hr.out 8796093022000 (by omega))
  obtain ⟨p, c, rfl⟩ := hv.out.slice
  obtain ⟨i0, hi0, hi1, hi2, hi3⟩ := strAll
  have hLn := Lib.hid hv.out.lines
  have e0 : (h == 0) = false := by simpa using h0
  clear h0
  go_enter Tryz.func29, Tryz.ntmps29
  go_wp2_with fail
  refine (rRight_c _ ls true _ hLn (by omega) hlt hr).mono ?_
  rintro e w2 ⟨rfl, k2⟩
  have k2' := Lib.hid k2
  have hv2 := Lib.hid (hv.out.keep k2)
  clear k2 hLn hr hlt
  go_wp2_with fail
  go_loopw [6, 5] (fun iv nv wr => ∃ (k : Nat) (q : Option Addr) (d : Nat), k ≤ ls.length ∧ iv = .int .i64 k ∧ nv = .slice q (nR h ls k).length d ∧ Hid (OwnR 9 1 nv1 w2 wr nv (nR h ls k)) ∧ Hid (Keeps (fun _ => False) w2 wr)) (fun iv _ _ => ls.length - (intOf iv).toNat)
  case atStart => exact ⟨0, none, 0, by omega, rfl, rfl, Lib.hid (OwnR.nil _ _ (Nat.le_refl _)), Lib.hid (Keeps.refl _ _)⟩
  case round =>
    obtain ⟨k, qa, d, hk, rfl, rfl, hO, hKw⟩ := hrel
    have hnl := nR_len h ls k
    generalize hnk : nR h ls k = D at hO hnl ⊢
    have hnk' := Lib.hid hnk
    clear hnk
    by_cases hlk : k < ls.length
    · obtain ⟨g, o, rfl, hrows⟩ := hv2.out.open (by omega)
      obtain ⟨q, hq⟩ : ∃ q, ls[k]? = some q := ⟨_, List.getElem?_eq_getElem hlk⟩
      obtain ⟨Nq, hN⟩ : ∃ N : ByteArray, N = ⟨q.name.toArray⟩ := ⟨_, rfl⟩
      obtain ⟨Fq, hF⟩ : ∃ N : ByteArray, N = ⟨q.leaf.toArray⟩ := ⟨_, rfl⟩
      obtain ⟨Vq, hVq⟩ : ∃ N : ByteArray, N = ⟨q.value.toArray⟩ := ⟨_, rfl⟩
      have hrow : Hid (wr.rangeAt g (o + k * 4) [.int .i64 q.head, .string Nq, .string Fq, .string Vq]) := Lib.hid (by rw [hN, hF, hVq]; exact hKw.out.rangeAt (hrows k q hq) id)
      have hNl : Hid (Nq.data.toList = q.name) := Lib.hid (by rw [hN])
      have hstep := Lib.hid (nR_step (h := h) hq)
      rw [hnk'.out] at hstep
      have hnl' := Lib.hid hnl
      have m1 : (0 : Int) ≤ (k : Int) := by omega
      have m2 : (k : Int) < (ls.length : Int) := by omega
      clear hrows hN hF hVq hq hnk' hnl
      by_cases a1 : q.head = h
      · have e1 : (q.head == h) = true := by simp [a1]
        have a1' := Lib.hid a1; clear a1
        cases D with
        | nil =>
          go_upto_region 7 with fail
          refine wp_region_noPanic ?_
          refine wp_region_held_drew (S := (fun W => Keeps (fun _ => False) wr W)) (by kernel_rfl) (((Keeps.refl _ _).drew)) (fun hHeld => ?_)
          refine tk 0 rfl ?_
          refine tk 1 rfl ?_
          refine tk 2 rfl ?_
          refine tk 3 rfl ?_
          refine tkL 4 rfl (yieldsIf_load_cell (by rfl) 3 (.tmp 23) rfl g (o + k * 4 + 0) rfl _ (fun _ s => s.rangeAt hrow.out id 0 _ rfl) (fun w s => load_int w _ _ _ s)) ?_
          refine tk 5 rfl ?_
          refine tk 6 rfl ?_
          refine tk 7 rfl ?_
          refine tk 8 rfl ?_
          refine tk 9 rfl ?_
          refine tk 10 rfl ?_
          refine tk 11 rfl ?_
          refine tkS 12 rfl ?_
          refine tkS 13 rfl ?_
          refine tkS 14 rfl ?_
          refine tkS 15 rfl ?_
          refine tkS 16 rfl ?_
          refine tkS 17 rfl ?_
          refine tkS 18 rfl ?_
          refine tkS 19 rfl ?_
          refine tkS 20 rfl ?_
          refine tkS 21 rfl ?_
          refine tkS 22 rfl ?_
          refine tkS 23 rfl ?_
          refine tk 24 rfl ?_
          refine tk 25 rfl ?_
          refine wpAnyH_done (by kernel_rfl) (NoPanic.normal ?_) _
          have hkk := Lib.hid (hKw.out.trans hHeld)
          have hOk := Lib.hid (hO.out.keep hHeld (fun _ _ f => f))
          have hrk := Lib.hid (hHeld.rangeAt hrow.out id)
          have hsame : Hid (nR h ls (k + 1) = [] ++ [Nq.data.toList]) := Lib.hid (by rw [hstep.out]; unfold stepN; rw [if_pos ⟨a1'.out, by simp⟩, hNl.out])
          clear hHeld
          generalize wr.drew = Wr at hkk hOk hrk ⊢
          have cN : Wr.cell? ⟨g, o + k * 4 + 1, none⟩ = some (.string Nq) := hrk.out 1 _ rfl
          go_wp2_with ((with_reducible refine at_slot 53 ?_); go_must (refine wpList_append_r rfl (.tmp 46) (.tmp 52) 57 9 rfl i0 _ 16 Tryz.underlying57 hi0 hi1 hi2 hi3 rfl (by decide) (by decide) (fun _ => rfl) w2 _ (0) ([]) rfl rfl (hOk.out.keep ((Keeps.refl (fun _ => False) _).alloc _) (fun _ _ f => f)) _ rfl Nq.data.toList (cells_new rfl [.string Nq] _) (fun u hu => (by simp [nv1] at hu; subst hu; rfl)) (by first | omega | (have := hnl'.out; omega) | (have := hnl'.out; have := hj'.out; omega)) ?_); intro q8 d8 w8 hO8 hg8)
          have hk8 := Lib.hid (OwnR.keeps (hOk.out.keep ((Keeps.refl (fun _ => False) _).alloc _) (fun _ _ f => f)) (hkk.out.alloc _) hg8.out)
          refine ⟨⟨k + 1, q8, d8, by omega, by go_num, by rw [hsame.out, List.length_append]; rfl, by rw [hsame.out]; exact hO8, hk8⟩, by simp [intOf]; omega⟩
        | cons x D =>
          obtain ⟨j, hj⟩ : ∃ j, (x :: D).length = j + 1 := ⟨D.length, rfl⟩
          obtain ⟨y, hy⟩ : ∃ y, (x :: D)[j]? = some y := ⟨_, List.getElem?_eq_getElem (by omega)⟩
          have hlast : Hid ((x :: D).getLast? = some y) := Lib.hid (by rw [List.getLast?_eq_getElem?, hj]; simpa using hy)
          obtain ⟨Ny, hNy⟩ : ∃ N : ByteArray, N = ⟨y.toArray⟩ := ⟨_, rfl⟩
          have hNyl : Hid (Ny.data.toList = y) := Lib.hid (by rw [hNy])
          have hRD := OwnR.at (cv := nv1) (sz := 1) (fun _ => rfl) hO.out
          obtain ⟨g5, o5, rfl, hrow5⟩ := hRD.open (by simp)
          have hcy : Hid (wr.cell? ⟨g5, o5 + j, none⟩ = some (.string Ny)) := Lib.hid (by
            have := hrow5 j y hy 0 _ rfl
            rw [Nat.mul_one, Nat.add_zero] at this
            rw [hNy]; exact this)
          generalize hxD : x :: D = D2 at hO hstep hnl' hlast hj ⊢
          rw [hj] at hO ⊢
          have hj' := Lib.hid hj
          have l1 : IntKind.i64.wrap (j : Int) = (j : Int) := IntWalk.i64_in _ (by have := hnl'.out; omega)
          have l3 : (0 : Int) ≤ (j : Int) := by omega
          have l6 : ((j : Int) + 1 == 0) = false := by simp; omega
          have l7 : (j : Int) < (j : Int) + 1 := by omega
          have hjl := hnl'.out
          clear hRD hrow5 hxD hy hNy hj
          by_cases a2 : Ny.data.toList = Nq.data.toList
          · have e2 := beq_list a2
            have a2' := Lib.hid a2; clear a2
            go_upto_region 7 with fail
            refine wp_region_noPanic ?_
            refine wp_region_held_drew (S := (fun W => Keeps (fun _ => False) wr W)) (by kernel_rfl) (((Keeps.refl _ _).drew)) (fun hHeld => ?_)
            refine tk 0 rfl ?_
            refine tk 1 rfl ?_
            refine tk 2 rfl ?_
            refine tk 3 rfl ?_
            refine tkL 4 rfl (yieldsIf_load_cell (by rfl) 3 (.tmp 23) rfl g (o + k * 4 + 0) rfl _ (fun _ s => s.rangeAt hrow.out id 0 _ rfl) (fun w s => load_int w _ _ _ s)) ?_
            refine tk 5 rfl ?_
            refine tk 6 rfl ?_
            refine tk 7 rfl ?_
            refine tk 8 rfl ?_
            refine tk 9 rfl ?_
            refine tk 10 rfl ?_
            refine tk 11 rfl ?_
            refine tk 12 rfl ?_
            refine tk 13 rfl ?_
            refine tk 14 rfl ?_
            refine tk 15 rfl ?_
            refine tk 16 rfl ?_
            refine tkL 17 rfl (yieldsIf_load_cell (by rfl) 9 (.tmp 36) rfl g5 (o5 + j) rfl _ (fun _ s => by rw [s.cell (p := ⟨g5, o5 + j, none⟩) (World.block_lt_of_cell? wr _ hcy.out) id]; exact hcy.out) (fun w s => load_str w _ _ _ s)) ?_
            refine tk 18 rfl ?_
            refine tk 19 rfl ?_
            refine tk 20 rfl ?_
            refine tk 21 rfl ?_
            refine tkL 22 rfl (yieldsIf_load_cell (by rfl) 9 (.tmp 41) rfl g (o + k * 4 + 1) rfl _ (fun _ s => s.rangeAt hrow.out id 1 _ rfl) (fun w s => load_str w _ _ _ s)) ?_
            refine tk 23 rfl ?_
            refine tk 24 rfl ?_
            refine tk 25 rfl ?_
            refine wpAnyH_done (by kernel_rfl) (NoPanic.normal ?_) _
            have hkk := Lib.hid (hKw.out.trans hHeld)
            have hOk := Lib.hid (hO.out.keep hHeld (fun _ _ f => f))
            have hsame : Hid (nR h ls (k + 1) = D2) := Lib.hid (by rw [hstep.out]; unfold stepN; rw [if_neg (fun e => e.2 (by rw [hlast.out, ← hNyl.out, ← hNl.out, a2'.out]))])
            clear hHeld
            go_wp2_with fail
            refine ⟨⟨k + 1, _, d, by omega, by go_num, by rw [hsame.out, hj'.out], by rw [hsame.out]; exact hOk, hkk⟩, by simp [intOf]; omega⟩
          · have e2 := bne_list a2
            have a2' := Lib.hid a2; clear a2
            go_upto_region 7 with fail
            refine wp_region_noPanic ?_
            refine wp_region_held_drew (S := (fun W => Keeps (fun _ => False) wr W)) (by kernel_rfl) (((Keeps.refl _ _).drew)) (fun hHeld => ?_)
            refine tk 0 rfl ?_
            refine tk 1 rfl ?_
            refine tk 2 rfl ?_
            refine tk 3 rfl ?_
            refine tkL 4 rfl (yieldsIf_load_cell (by rfl) 3 (.tmp 23) rfl g (o + k * 4 + 0) rfl _ (fun _ s => s.rangeAt hrow.out id 0 _ rfl) (fun w s => load_int w _ _ _ s)) ?_
            refine tk 5 rfl ?_
            refine tk 6 rfl ?_
            refine tk 7 rfl ?_
            refine tk 8 rfl ?_
            refine tk 9 rfl ?_
            refine tk 10 rfl ?_
            refine tk 11 rfl ?_
            refine tk 12 rfl ?_
            refine tk 13 rfl ?_
            refine tk 14 rfl ?_
            refine tk 15 rfl ?_
            refine tk 16 rfl ?_
            refine tkL 17 rfl (yieldsIf_load_cell (by rfl) 9 (.tmp 36) rfl g5 (o5 + j) rfl _ (fun _ s => by rw [s.cell (p := ⟨g5, o5 + j, none⟩) (World.block_lt_of_cell? wr _ hcy.out) id]; exact hcy.out) (fun w s => load_str w _ _ _ s)) ?_
            refine tk 18 rfl ?_
            refine tk 19 rfl ?_
            refine tk 20 rfl ?_
            refine tk 21 rfl ?_
            refine tkL 22 rfl (yieldsIf_load_cell (by rfl) 9 (.tmp 41) rfl g (o + k * 4 + 1) rfl _ (fun _ s => s.rangeAt hrow.out id 1 _ rfl) (fun w s => load_str w _ _ _ s)) ?_
            refine tk 23 rfl ?_
            refine tk 24 rfl ?_
            refine tk 25 rfl ?_
            refine wpAnyH_done (by kernel_rfl) (NoPanic.normal ?_) _
            have hkk := Lib.hid (hKw.out.trans hHeld)
            have hOk := Lib.hid (hO.out.keep hHeld (fun _ _ f => f))
            have hrk := Lib.hid (hHeld.rangeAt hrow.out id)
            have hsame : Hid (nR h ls (k + 1) = D2 ++ [Nq.data.toList]) := Lib.hid (by rw [hstep.out]; unfold stepN; rw [if_pos ⟨a1'.out, fun e => a2'.out (by rw [hlast.out] at e; injection e with e; rw [hNyl.out, hNl.out, e])⟩, hNl.out])
            clear hHeld
            generalize wr.drew = Wr at hkk hOk hrk ⊢
            have cN : Wr.cell? ⟨g, o + k * 4 + 1, none⟩ = some (.string Nq) := hrk.out 1 _ rfl
            go_wp2_with ((with_reducible refine at_slot 53 ?_); go_must (refine wpList_append_r rfl (.tmp 46) (.tmp 52) 57 9 rfl i0 _ 16 Tryz.underlying57 hi0 hi1 hi2 hi3 rfl (by decide) (by decide) (fun _ => rfl) w2 _ (j + 1) (D2) hj'.out rfl (hOk.out.keep ((Keeps.refl (fun _ => False) _).alloc _) (fun _ _ f => f)) _ rfl Nq.data.toList (cells_new rfl [.string Nq] _) (fun u hu => (by simp [nv1] at hu; subst hu; rfl)) (by first | omega | (have := hnl'.out; omega) | (have := hnl'.out; have := hj'.out; omega)) ?_); intro q8 d8 w8 hO8 hg8)
            have hk8 := Lib.hid (OwnR.keeps (hOk.out.keep ((Keeps.refl (fun _ => False) _).alloc _) (fun _ _ f => f)) (hkk.out.alloc _) hg8.out)
            refine ⟨⟨k + 1, q8, d8, by omega, by go_num, by rw [hsame.out, List.length_append]; rw [hj'.out]; rfl, by rw [hsame.out]; exact hO8, hk8⟩, by simp [intOf]; omega⟩
      · have e1 : (q.head == h) = false := by simp [a1]
        have a1' := Lib.hid a1; clear a1
        go_upto_region 7 with fail
        refine wp_region_noPanic ?_
        refine wp_region_held_drew (S := (fun W => Keeps (fun _ => False) wr W)) (by kernel_rfl) (((Keeps.refl _ _).drew)) (fun hHeld => ?_)
        refine tk 0 rfl ?_
        refine tk 1 rfl ?_
        refine tk 2 rfl ?_
        refine tk 3 rfl ?_
        refine tkL 4 rfl (yieldsIf_load_cell (by rfl) 3 (.tmp 23) rfl g (o + k * 4 + 0) rfl _ (fun _ s => s.rangeAt hrow.out id 0 _ rfl) (fun w s => load_int w _ _ _ s)) ?_
        refine tk 5 rfl ?_
        refine tk 6 rfl ?_
        refine tk 7 rfl ?_
        refine tkS 8 rfl ?_
        refine tkS 9 rfl ?_
        refine tkS 10 rfl ?_
        refine tkS 11 rfl ?_
        refine tkS 12 rfl ?_
        refine tkS 13 rfl ?_
        refine tkS 14 rfl ?_
        refine tkS 15 rfl ?_
        refine tkS 16 rfl ?_
        refine tkS 17 rfl ?_
        refine tkS 18 rfl ?_
        refine tkS 19 rfl ?_
        refine tkS 20 rfl ?_
        refine tkS 21 rfl ?_
        refine tkS 22 rfl ?_
        refine tkS 23 rfl ?_
        refine tkS 24 rfl ?_
        refine tk 25 rfl ?_
        refine wpAnyH_done (by kernel_rfl) (NoPanic.normal ?_) _
        have hkk := Lib.hid (hKw.out.trans hHeld)
        have hOk := Lib.hid (hO.out.keep hHeld (fun _ _ f => f))
        have hsame : Hid (nR h ls (k + 1) = D) := Lib.hid (by rw [hstep.out]; unfold stepN; rw [if_neg (fun e => a1'.out e.1)])
        clear hHeld
        go_wp2_with fail
        refine ⟨⟨k + 1, qa, d, by omega, by go_num, by rw [hsame.out], by rw [hsame.out]; exact hOk, hkk⟩, by simp [intOf]; omega⟩
    · obtain rfl : k = ls.length := by omega
      have hfin := Lib.hid (k2'.out.trans hKw.out)
      have hO' := Lib.hid (hO.out.older (w0 := w) k2'.out.size)
      clear hnl hO hKw
      go_wp2_with fail
      go_ret
      show NamesPost (nR h ls ls.length) w _ _
      rw [hnk'.out]
      exact ⟨qa, d, rfl, hO'.out, hfin.out⟩
end Go.Proofs.YtialookpnoaogaaGreat
/- Both Names are the same, plain. -/
set_option linter.unusedVariables false
set_option linter.unusedSimpArgs false
namespace Go.Proofs.YtialookpnoaogaaGreat
open Go.RowKit

theorem less_head {a b : LineD} (h : lessB a b = true) : a.head ≤ b.head := by
  rw [lessB_iff] at h
  rcases h with h | ⟨h, _⟩ <;> omega
theorem names_both (h : Int) {ls : List LineD} (hr : rises ls) : ∀ k, k ≤ ls.length → nR h ls k = namesFrom h none (ls.take k) ∧
    (k = 0 → nR h ls k = []) ∧ ∀ j p, k = j + 1 → ls[j]? = some p → (p.head = h → (nR h ls k).getLast? = some p.name) ∧ (p.head < h → nR h ls k = []) := by
  intro k
  induction k with
  | zero => intro _; exact ⟨rfl, fun _ => rfl, fun j p e => by omega⟩
  | succ k ih =>
    intro hk
    obtain ⟨i1, i2, i3⟩ := ih (by omega)
    obtain ⟨q, hq⟩ : ∃ q, ls[k]? = some q := ⟨_, List.getElem?_eq_getElem (by omega)⟩
    have hs1 := nR_step (h := h) hq
    have hs2 := names_step (h := h) hq
    generalize nR h ls k = o at i1 i2 i3 hs1
    generalize nR h ls (k + 1) = o2 at hs1 ⊢
    subst hs1
    -- are both of one mind?
    have hmind : q.head = h → (newName h (prevOf ls k) q = true ↔ o.getLast? ≠ some q.name) := fun hh => by
      cases k with
      | zero =>
        have ho := i2 rfl
        subst ho
        simp [newName, prevOf, hh]
      | succ j =>
        obtain ⟨p, hp⟩ : ∃ p, ls[j]? = some p := ⟨_, List.getElem?_eq_getElem (by omega)⟩
        obtain ⟨j1, j2⟩ := i3 j p rfl hp
        have hle := less_head (rises_at hr j p q hp hq)
        have hpv : prevOf ls (j + 1) = some p := hp
        rw [hpv]
        by_cases e : p.head = h
        · rw [j1 e]
          unfold newName
          simp [hh, e]
        · have ho := j2 (by omega)
          subst ho
          unfold newName
          simp [hh, e]
    refine ⟨?_, fun e => by omega, fun j p e hp => ?_⟩
    · rw [hs2, ← i1]
      unfold stepN
      by_cases hh : q.head = h
      · by_cases hm : o.getLast? = some q.name
        · rw [if_neg (fun e => e.2 hm), if_neg (fun e => ((hmind hh).1 e) hm), List.append_nil]
        · rw [if_pos ⟨hh, hm⟩, if_pos ((hmind hh).2 hm)]
      · rw [if_neg (fun e => hh e.1), if_neg (by unfold newName; simp [hh]), List.append_nil]
    · obtain rfl : k = j := by omega
      rw [hq] at hp; injection hp with hp; subst hp
      unfold stepN
      refine ⟨fun hh => ?_, fun hlt => ?_⟩
      · by_cases hm : o.getLast? = some q.name
        · rw [if_neg (fun e => e.2 hm)]; exact hm
        · rw [if_pos ⟨hh, hm⟩]; simp
      · rw [if_neg (fun e => by have := e.1; omega)]
        cases k with
        | zero => exact i2 rfl
        | succ i =>
          obtain ⟨p, hp⟩ : ∃ p, ls[i]? = some p := ⟨_, List.getElem?_eq_getElem (by omega)⟩
          have hle := less_head (rises_at hr i p q hp hq)
          exact (i3 i p rfl hp).2 (by omega)
theorem names_same (h : Int) {ls : List LineD} (hr : rises ls) : nR h ls ls.length = namesFrom h none ls := by
  have := (names_both h hr ls.length (Nat.le_refl _)).1
  rwa [List.take_length] at this
end Go.Proofs.YtialookpnoaogaaGreat
/- Names of a right configuration, both sides (gen_run.py: the last part of CHA, for a seat without Set). -/
set_option linter.unusedVariables false
set_option linter.unusedSimpArgs false
namespace Go.Proofs.YtialookpnoaogaaGreat
open Go.RowKit

def namesA (h : Int) (ls : List LineD) : List (List UInt8) := if h = 0 then [] else namesFrom h none ls
theorem namesA_len (h : Int) (ls : List LineD) : (namesA h ls).length ≤ ls.length := by
  unfold namesA
  split
  · simp
  · exact names_len_le h ls none
def NamesP (xs : List (List UInt8)) (w : World) (e : Ending) (w' : World) : Prop :=
  ∃ p c, e = .returned (.slice p xs.length c) ∧ StrsAt w' (.slice p xs.length c) xs ∧ Keeps (fun _ => False) w w'
theorem rows_strs {w : World} {v : Value} {xs : List (List UInt8)} (h : RowsAt 1 nv1 w v xs) : StrsAt w v xs := by
  obtain ⟨p, c, rfl, -, -, hr⟩ := h
  refine ⟨p, c, rfl, fun h0 => ?_⟩
  obtain ⟨g, o, rfl, hr2⟩ := hr h0
  refine ⟨g, o, rfl, fun j u hu => ?_⟩
  rw [List.getElem?_map] at hu
  cases hx : xs[j]? with
  | none => rw [hx] at hu; cases hu
  | some x =>
    rw [hx] at hu
    injection hu with hu
    have := hr2 j x hx 0 u (by rw [← hu]; rfl)
    rw [Nat.mul_one, Nat.add_zero] at this
    exact this
theorem nv1_len (x : List UInt8) : (nv1 x).length = 1 := rfl

set_option maxRecDepth 100000 in
set_option maxHeartbeats 2000000 in
theorem names_all (v : Value) (ls : List LineD) (h : Int) (w : World) (hv : Hid (RowsAt 4 lineVals w v ls)) (hr : Hid (rightC ls = true)) :
    Calls Tryz.prog 19 #[v, .int .i64 h] w (NamesP (namesA h ls) w) := by
  by_cases h0 : h = 0
  · subst h0
    have e : namesA 0 ls = [] := rfl
    rw [e]
    obtain ⟨p, c, rfl⟩ := hv.out.slice
    go_enter Tryz.func19, Tryz.ntmps19
    go_wp2_with fail
    go_ret
    exact ⟨none, 0, rfl, ⟨none, 0, rfl, fun h => absurd h (by simp)⟩, Keeps.refl _ _⟩
  · have e : namesA h ls = namesFrom h none ls := if_neg h0
    rw [e]
    refine (names_any v ls h w hv (right_len hr.out) (Lib.hid (right_lt hr.out 9223372036854775807 (by omega))) hr h0).mono ?_
    rintro e w2 ⟨p, c, rfl, hO, k⟩
    exact ⟨p, c, rfl, rows_strs (hO.at nv1_len), k⟩
set_option maxRecDepth 100000 in
set_option maxHeartbeats 2000000 in
theorem rNames_all (v : Value) (ls : List LineD) (h : Int) (w : World) (hv : Hid (RowsAt 4 lineVals w v ls)) (hr : Hid (rightC ls = true)) :
    Calls Tryz.prog 29 #[v, .int .i64 h] w (NamesP (namesA h ls) w) := by
  by_cases h0 : h = 0
  · subst h0
    have e : namesA 0 ls = [] := rfl
    rw [e]
    obtain ⟨p, c, rfl⟩ := hv.out.slice
    have hLn := Lib.hid hv.out.lines
    have hlen := right_len hr.out
    have hlt := Lib.hid (right_lt hr.out 8796093022000 (by omega))
    go_enter Tryz.func29, Tryz.ntmps29
    go_wp2_with fail
    refine (rRight_c _ ls true _ hLn (by omega) hlt hr).mono ?_
    rintro e w2 ⟨rfl, k2⟩
    have k2' := Lib.hid k2; clear k2
    go_wp2_with fail
    go_ret
    exact ⟨none, 0, rfl, ⟨none, 0, rfl, fun h => absurd h (by simp)⟩, k2'.out⟩
  · have e : namesA h ls = nR h ls ls.length := (if_neg h0).trans (names_same h (right_rises hr.out)).symm
    rw [e]
    refine (rNames_c v ls h w hv hr h0).mono ?_
    rintro e w2 ⟨p, c, rfl, hO, k⟩
    exact ⟨p, c, rfl, rows_strs (hO.at nv1_len), k⟩
end Go.Proofs.YtialookpnoaogaaGreat
/- A map of numbers to slices (map[uint32][]lsa.Link) that the call makes: look-ups, stores, ranging. -/
set_option linter.unusedVariables false
set_option linter.unusedSimpArgs false
namespace Go.Proofs.YtialookpnoaogaaGreat
open Go.RowKit

theorem yieldsIf_lookupU {P : Program} {ops : Array Oper} {S : World → Prop} {op : Oper} {a : Act} (hw : Region.wanted op (yielded ops a.tmps) = true) (ty : TypeId) (x k : Operand) (ok : Bool) (ho : op.op = .lookup ty x k ok) (xv kv v : Value) (hx : a.eval x = xv) (hk : a.eval k = kv)
    (hS : ∀ w, S w → (Instr.lookup ty xv kv ok).run P w = .ok v w) : YieldsIf P ops S op v a :=
  .inl ⟨hw, fun w hw' => by
    unfold execOp
    simp only [ho, hx, hk, Sem.run_bind, hS w hw', Result.andThen_ok]; rfl⟩
theorem wp_mapUpdate_runU {P : Program} {w : World} {o : Oper} {a : Act} {K : Act → World → Prop} {Q : Exit → Act → World → Prop} (ty : TypeId) (m k x : Operand) (ho : o.op = .mapUpdate ty m k x) (mv kv xv : Value) (hm : a.eval m = mv) (hk : a.eval k = kv) (hx : a.eval x = xv)
    (w' : World) (hr : (Instr.mapUpdate ty mv kv xv).run P w = .ok () w') (h : K (a.put o.dst undef) w') : Oper.wp P o a w K Q := by
  unfold Oper.wp execOp
  simp only [ho, hm, hk, hx, Sem.run_bind, hr, Result.andThen_ok]
  exact h
theorem keyedU : Maps.Keyed Tryz.prog 40 := Maps.int_keyed Tryz.underlying40
/-- what lies in such a map: a value for a number -/
abbrev UMap := Nat → Option Value
def otherV : Value → Value
  | .bool b => .bool (!b)
  | _ => .bool true
theorem otherV_ne (v : Value) : otherV v ≠ v := by cases v <;> simp [otherV]
def UR : Value → Option (DataW Value × List MemPlace) := fun v => some (.held v, [])
def UIs (D : DataW Value) (K : UMap) : Prop := ∀ (x : Nat) zd, D.atKey (.int .u32 x) zd = match K x with | some v => .held v | none => zd
theorem UIs.has {D : DataW Value} {K : UMap} (h : UIs D K) (x : Nat) : Maps.has D (.int .u32 x) = (K x).isSome := by
  cases hk : K x with
  | none => exact Maps.has_false_of_atKey (fun z => by rw [h x z, hk])
  | some v => exact Maps.has_true_of_atKey (y := .held v) (fun z => by rw [h x z, hk])
theorem keep_of_grownU {w w' : World} {b : Nat} (h : w.grownBy w' (some b)) : Keeps (fun i => i = b) w w' := ⟨h.os, h.tape, h.output, h.size, fun k hk hn => h.block k hk (fun e => hn (by injection e))⟩
theorem keep_of_grownU0 {w w' : World} (h : w.grownBy w' none) : Keeps (fun _ => False) w w' := ⟨h.os, h.tape, h.output, h.size, fun k hk _ => h.block k hk (by simp)⟩
theorem wf_u32 (x : Nat) (h : x < 4294967296) : (Lit.int .u32 (x : Int)).wf = true := by simp [Lit.wf, IntKind.min, IntKind.max, IntKind.signed, IntKind.bits]; omega
theorem u32_key (x : Nat) (h : x < 4294967296) : keyOf Tryz.prog 40 (.int .u32 x) = some (.int .u32 x) := Maps.keyOf_int_mk Tryz.underlying40 (wf_u32 x h)
theorem u32_key_inv {key : Value} {kl : Lit} (h : keyOf Tryz.prog 40 key = some kl) : ∃ x : Nat, x < 4294967296 ∧ key = .int .u32 x ∧ kl = .int .u32 x := by
  obtain ⟨x, rfl, rfl, hw⟩ := Maps.keyOf_int_inv Tryz.underlying40 h
  have h2 : 0 ≤ x ∧ x < 4294967296 := by
    simp [Lit.wf, IntKind.min, IntKind.max, IntKind.signed, IntKind.bits] at hw
    omega
  exact ⟨x.toNat, by omega, by rw [Int.toNat_of_nonneg h2.1], by rw [Int.toNat_of_nonneg h2.1]⟩
def UAt (w : World) (r N : Nat) (K : UMap) : Prop := ∃ D, w.ownsMap Tryz.prog 40 UR r N D ∧ UIs D K
theorem UAt.keep {F : Nat → Prop} {w w' : World} {r N : Nat} {K : UMap} (h : UAt w r N K) (k : Keeps F w w') (hF : ¬ F r) : UAt w' r N K := by
  obtain ⟨D, h, h2⟩ := h
  have hlt := h.lt
  obtain ⟨es, clock, hb, r2⟩ := h
  exact ⟨D, ⟨es, clock, by rw [k.block r hlt hF]; exact hb, r2⟩, h2⟩
theorem UAt.mono {w : World} {r N N' : Nat} {K : UMap} (h : UAt w r N K) (hN : N ≤ N') : UAt w r N' K := by
  obtain ⟨D, h1, h2⟩ := h
  exact ⟨D, h1.mono hN, h2⟩
theorem UAt.lt {w : World} {r N : Nat} {K : UMap} (h : UAt w r N K) : r < w.heap.size := by obtain ⟨D, h1, -⟩ := h; exact h1.lt
theorem UAt.new (w : World) : UAt (w.alloc (.map #[] 0)) w.heap.size 0 (fun _ => none) := ⟨_, World.ownsMap_made w _ _ _, fun x zd => rfl⟩
theorem zeroUL (w : World) : (zeroValue 72).run Tryz.prog w = .ok (.slice none 0 0) w := by
  simp [go_sem]
theorem UAt.look {w : World} {r N : Nat} {K : UMap} (h : UAt w r N K) (x : Nat) (hx : x < 4294967296) : (Instr.lookup 125 (.map (some r)) (.int .u32 x) false).run Tryz.prog w = .ok ((K x).getD (.slice none 0 0)) w := by
  obtain ⟨D, h1, h2⟩ := h
  obtain ⟨v, ps, e1, e2⟩ := h1.lookup keyedU Tryz.underlying125 (z := .slice none 0 0) (zeroUL w) (zd := .held (.slice none 0 0)) (zp := []) rfl (u32_key x hx)
  rw [e1]
  have e3 := (Prod.mk.inj (Option.some.inj e2)).1
  rw [h2] at e3
  cases hk : K x with
  | none => rw [hk] at e3; rw [DataW.held.inj e3]; rfl
  | some k => rw [hk] at e3; rw [DataW.held.inj e3]; rfl
def updU (K : UMap) (x : Nat) (v : Value) : UMap := fun z => if z = x then some v else K z
theorem lit_u32_inj {x y : Nat} (h : Lit.int .u32 (x : Int) = Lit.int .u32 (y : Int)) : x = y := by injection h with _ h; omega
theorem UAt.put {w : World} {r N : Nat} {K : UMap} (h : UAt w r N K) (hN : N < 1000000) (x : Nat) (hx : x < 4294967296) (v : Value) :
    ∃ w', (Instr.mapUpdate 125 (.map (some r)) (.int .u32 x) v).run Tryz.prog w = .ok () w' ∧ UAt w' r (N + 1) (updU K x v) ∧ Keeps (fun i => i = r) w w' := by
  obtain ⟨D, h1, h2⟩ := h
  obtain ⟨w', e1, e2, e3⟩ := h1.update keyedU Tryz.underlying125 (by unfold maxLen; omega) (u32_key x hx) (val := v) (d := .held v) (ps := []) rfl
  refine ⟨w', e1, ⟨_, e2, fun z zd => ?_⟩, keep_of_grownU e3⟩
  unfold updU
  by_cases hz : z = x
  · subst hz
    rw [if_pos rfl, Maps.atKey_put_same h1.isMap (show WideAt.IsKeyLit (.int _ _) from trivial)]
  · rw [if_neg hz, Maps.atKey_put_other (fun e => hz (lit_u32_inj e)), h2 z zd]
/-- a loop over a map under way -/
def URng (w : World) (b r N : Nat) (K : UMap) (L : Nat → Bool) (cnt : Nat) : Prop := ∃ D left, w.ranges Tryz.prog 40 UR b r N D left cnt ∧ UIs D K ∧ ∀ x : Nat, left (.int .u32 x) = L x
theorem URng.keep {F : Nat → Prop} {w w' : World} {b r N cnt : Nat} {K : UMap} {L : Nat → Bool} (h : URng w b r N K L cnt) (k : Keeps F w w') (hb : ¬ F b) (hr : ¬ F r) : URng w' b r N K L cnt := by
  obtain ⟨D, left, h, h2, h3⟩ := h
  have h1 := h.owns.lt
  have h4 := h.lt
  obtain ⟨es, clock, since, seen, c0, e1, f1, f2, f3, e2, rest⟩ := h
  exact ⟨D, left, ⟨es, clock, since, seen, c0, (k.block b h1 hb).trans e1, f1, f2, f3, (k.block r h4 hr).trans e2, rest⟩, h2, h3⟩
theorem URng.at {w : World} {b r N cnt : Nat} {K : UMap} {L : Nat → Bool} (h : URng w b r N K L cnt) : UAt w b N K := by
  obtain ⟨D, left, h1, h2, h3⟩ := h
  exact ⟨D, h1.owns, h2⟩
theorem URng.left_eq {w : World} {b r N cnt : Nat} {K : UMap} {L : Nat → Bool} (h : URng w b r N K L cnt) : w.rangeLeft b r = cnt := by obtain ⟨D, left, h1, -⟩ := h; exact h1.left_eq
theorem UAt.range {w : World} {b N : Nat} {K : UMap} (h : UAt w b N K) : ∃ w' cnt, (Instr.range 125 (.map (some b))).run Tryz.prog w = .ok (.pointer (some ⟨w.heap.size, 0, none⟩)) w' ∧ URng w' b w.heap.size N K (fun x => (K x).isSome) cnt ∧ cnt ≤ N ∧ Keeps (fun _ => False) w w' ∧ w'.heap.size = w.heap.size + 1 := by
  obtain ⟨D, h1, h2⟩ := h
  obtain ⟨w', e1, e2, e3, e4⟩ := h1.range keyedU Tryz.underlying125
  exact ⟨w', _, e1, ⟨D, _, e2, h2, fun x => h2.has x⟩, h1.size_le, keep_of_grownU0 e3, e4⟩
theorem URng.next {w : World} {b r N cnt : Nat} {K : UMap} {L : Nat → Bool} (h : URng w b r N K L cnt) (ty : TypeId) :
    (cnt = 0 ∧ (∀ x, L x = false) ∧ (Instr.next (.pointer (some ⟨r, 0, none⟩)) false ty).run Tryz.prog w = .ok (.tuple #[.bool false]) w) ∨
    ∃ (x : Nat) (v : Value) (w' : World) (cnt' : Nat), x < 4294967296 ∧ L x = true ∧ K x = some v ∧ (Instr.next (.pointer (some ⟨r, 0, none⟩)) false ty).run Tryz.prog w = .ok (.tuple #[.bool true, .int .u32 x, v]) w' ∧
      URng w' b r N K (fun z => L z && !decide (z = x)) cnt' ∧ cnt' < cnt ∧ Keeps (fun i => i = r) w w' ∧ w'.heap.size = w.heap.size ∧ (Instr.entry (.pointer (some ⟨r, 0, none⟩))).run Tryz.prog w' = .ok (.tuple #[.int .u32 x, v]) w' := by
  obtain ⟨D, left, h1, h2, h3⟩ := h
  rcases h1.next keyedU ty with ⟨e1, e2, e3⟩ | ⟨key, v, kl, y, w', cnt', e1, e2, e3, e4, e5, e6, e7, e8, e9, e10⟩
  · exact .inl ⟨e1, fun x => by rw [← h3 x]; exact e2 _, e3⟩
  · right
    obtain ⟨x, hx, rfl, rfl⟩ := u32_key_inv e1
    have hy : y.1 = .held v := by have := Option.some.inj e3; rw [← this]
    refine ⟨x, v, w', cnt', hx, by rw [← h3]; exact e2, ?_, e5, ⟨D, _, e6, h2, fun z => ?_⟩, e7, keep_of_grownU e8, e9, e10⟩
    · have h4 := e4 (.held (otherV v))
      rw [h2 x, hy] at h4
      cases hk : K x with
      | none =>
        rw [hk] at h4
        have h5 := DataW.held.inj h4
        exact absurd h5 (otherV_ne v)
      | some k =>
        rw [hk] at h4
        rw [DataW.held.inj h4]
    · show (left (.int .u32 z) && !(Lit.int .u32 (z : Int)).sameKey (.int .u32 (x : Int))) = _
      have hk : (Lit.int .u32 (z : Int)).sameKey (.int .u32 (x : Int)) = decide (z = x) := by
        by_cases hz : z = x
        · subst hz; rw [decide_eq_true rfl]; exact WideAt.sameKey_self trivial
        · rw [decide_eq_false hz, Bool.eq_false_iff]
          intro e
          exact hz (lit_u32_inj (WideAt.sameKey_eq e))
      rw [h3 z, hk]
end Go.Proofs.YtialookpnoaogaaGreat
/- Of adv: the links of each area, in a map: plain, and as it lies in memory. -/
set_option linter.unusedVariables false
set_option linter.unusedSimpArgs false
namespace Go.Proofs.YtialookpnoaogaaGreat
open Go.RowKit

theorem wp_lookup_runU {P : Program} {w : World} {o : Oper} {a : Act} {K : Act → World → Prop} {Q : Exit → Act → World → Prop} (ty : TypeId) (m k : Operand) (ok : Bool) (ho : o.op = .lookup ty m k ok) (mv kv v : Value) (hm : a.eval m = mv) (hk : a.eval k = kv)
    (hr : (Instr.lookup ty mv kv ok).run P w = .ok v w) (h : K (a.put o.dst v) w) : Oper.wp P o a w K Q := by
  unfold Oper.wp execOp
  simp only [ho, hm, hk, Sem.run_bind, hr, Result.andThen_ok]
  exact h
structure StandR where
  s : SetD
  nm : List UInt8
  dr : Nat
  p : Option Addr
  n : Nat
  c : Nat
def StandR.vals (x : StandR) : List Value := standVals x.s x.nm x.dr (.slice x.p x.n x.c)
theorem stand_len (x : StandR) : x.vals.length = 13 := rfl
/-- the links of an area -/
def areaLinks (lk : StandR → List LinkD) (xs : List StandR) (a : Nat) : List LinkD := (xs.filter (fun x => decide (x.s.area = a))).flatMap lk
theorem areaLinks_snoc (lk : StandR → List LinkD) (xs : List StandR) (x : StandR) (a : Nat) : areaLinks lk (xs ++ [x]) a = if x.s.area = a then areaLinks lk xs a ++ lk x else areaLinks lk xs a := by
  unfold areaLinks
  rw [List.filter_append, List.flatMap_append]
  by_cases h : x.s.area = a
  · simp [h]
  · simp [h]
theorem areaLinks_len (lk : StandR → List LinkD) (xs : List StandR) (a : Nat) (h : ∀ x ∈ xs, (lk x).length ≤ 9) : (areaLinks lk xs a).length ≤ xs.length * 9 := by
  induction xs with
  | nil => simp [areaLinks]
  | cons x xs ih =>
    have h1 := ih (fun y hy => h y (List.mem_cons_of_mem _ hy))
    have h2 := h x List.mem_cons_self
    unfold areaLinks at *
    rw [List.filter_cons, List.length_cons]
    split
    · rw [List.flatMap_cons, List.length_append]; omega
    · omega
theorem areaLinks_none (lk : StandR → List LinkD) (xs : List StandR) (a : Nat) (h : xs.any (fun x => decide (x.s.area = a)) = false) : areaLinks lk xs a = [] := by
  unfold areaLinks
  rw [List.filter_eq_nil_iff.2, List.flatMap_nil]
  intro x hx
  rw [List.any_eq_false] at h
  exact h x hx
theorem own_lt {α : Type} {t sz : Nat} {cv : α → List Value} {w0 w : World} {v : Value} {xs : List α} (h : OwnR t sz cv w0 w v xs) : ∀ k, v.ownBlock = some k → k < w.heap.size := by
  intro k e
  rcases h.1.2 with ⟨e1, -⟩ | ⟨g, cap, cur, e1, -, hg, -⟩
  · rw [e1] at e; simp [Value.ownBlock] at e
  · rw [e1] at e
    simp only [Value.ownBlock, Option.some.injEq] at e
    subst e
    exact (Array.getElem?_eq_some_iff.1 hg).1
/-- the map of links under way -/
structure MapL (w0 W : World) (r : Nat) (lk : StandR → List LinkD) (xs : List StandR) (K : UMap) : Prop where
  u : UAt W r xs.length K
  h : ∀ a, (K a).isSome = xs.any (fun x => decide (x.s.area = a))
  o : ∀ a v, K a = some v → OwnR 142 4 linkVals w0 W v (areaLinks lk xs a)
  d : ∀ a b va vb k, K a = some va → K b = some vb → va.ownBlock = some k → vb.ownBlock = some k → a = b
  k : Keeps (fun i => i = r) w0 W
theorem MapL.keep {w0 W W' : World} {r : Nat} {lk : StandR → List LinkD} {xs : List StandR} {K : UMap} (h : MapL w0 W r lk xs K) (k : Keeps (fun _ => False) W W') : MapL w0 W' r lk xs K :=
  ⟨h.u.keep k id, h.h, fun a v e => (h.o a v e).keep k (fun _ _ f => f), h.d, h.k.trans (k.mono (fun _ f => f.elim))⟩
theorem MapL.old {w0 W : World} {r : Nat} {lk : StandR → List LinkD} {xs : List StandR} {K : UMap} (h : MapL w0 W r lk xs K) (a : Nat) : OwnR 142 4 linkVals w0 W ((K a).getD (.slice none 0 0)) (areaLinks lk xs a) := by
  cases e : K a with
  | some v => exact h.o a v e
  | none =>
    have h2 := h.h a
    rw [e] at h2
    rw [areaLinks_none lk xs a h2.symm]
    exact OwnR.nil _ _ h.k.size
theorem MapL.step {w0 W W1 : World} {r : Nat} {lk : StandR → List LinkD} {xs : List StandR} {K : UMap} (h : MapL w0 W r lk xs K) (hr : r < w0.heap.size) (hN : xs.length < 1000000) (x : StandR) (hx : x.s.area < 4294967296) {v : Value} (hv : (K x.s.area).getD (.slice none 0 0) = v) {p : Option Addr} {n c : Nat}
    (hO : OwnR 142 4 linkVals w0 W1 (.slice p n c) (areaLinks lk xs x.s.area ++ lk x)) (g : Grown W v p n c W1) :
    ∃ W2, (Instr.mapUpdate 125 (.map (some r)) (.int .u32 x.s.area) (.slice p n c)).run Tryz.prog W1 = .ok () W2 ∧ MapL w0 W2 r lk (xs ++ [x]) (updU K x.s.area (.slice p n c)) ∧ Keeps (fun i => i = r) W1 W2 := by
  have hold := h.old x.s.area
  rw [hv] at hold
  have hvr : ¬ v.ownBlock = some r := fun e => by have := hold.2.1 r e; omega
  have u1 := h.u.keep g.k hvr
  obtain ⟨W2, e1, e2, e3⟩ := u1.put hN x.s.area hx (.slice p n c)
  refine ⟨W2, e1, ⟨by rw [List.length_append]; exact e2, fun a => ?_, fun a v' e => ?_, fun a b va vb k ea eb ka kb => ?_, ?_⟩, e3⟩
  · unfold updU
    rw [List.any_append, ← h.h a]
    by_cases hax : a = x.s.area
    · subst hax; simp
    · rw [if_neg hax]
      have : ¬ x.s.area = a := fun e => hax e.symm
      simp [this]
  · unfold updU at e
    rw [areaLinks_snoc]
    by_cases hax : a = x.s.area
    · subst hax
      rw [if_pos rfl] at e ⊢
      injection e with e
      subst e
      exact hO.keep e3 (fun i ei e => by have := hO.2.1 i ei; omega)
    · rw [if_neg hax] at e
      rw [if_neg (fun e => hax e.symm)]
      have ho := h.o a v' e
      refine (ho.keep g.k (fun i ei ev => ?_)).keep e3 (fun i ei e => by have := ho.2.1 i ei; omega)
      cases ek : K x.s.area with
      | none => rw [ek] at hv; subst hv; simp [Value.ownBlock] at ev
      | some vx =>
        rw [ek] at hv
        replace hv : vx = v := hv
        subst hv
        exact hax (h.d a x.s.area v' vx i e ek ei ev)
  · unfold updU at ea eb
    have key : ∀ a va k, a ≠ x.s.area → K a = some va → va.ownBlock = some k → (Value.slice p n c).ownBlock = some k → False := fun a va k hax e1 e2 e3 => by
      rcases g.s k e3 with e4 | e4
      · cases ek : K x.s.area with
        | none => rw [ek] at hv; subst hv; simp [Value.ownBlock] at e4
        | some vx =>
          rw [ek] at hv
          replace hv : vx = v := hv
          subst hv
          exact hax (h.d a x.s.area va vx k e1 ek e2 e4)
      · have := own_lt (h.o a va e1) k e2
        omega
    by_cases hax : a = x.s.area
    · by_cases hbx : b = x.s.area
      · rw [hax, hbx]
      · rw [if_pos hax] at ea
        rw [if_neg hbx] at eb
        replace ea := Option.some.inj ea
        subst ea
        exact absurd (key b vb k hbx eb kb ka) id
    · by_cases hbx : b = x.s.area
      · rw [if_neg hax] at ea
        rw [if_pos hbx] at eb
        replace eb := Option.some.inj eb
        subst eb
        exact absurd (key a va k hax ea ka kb) id
      · rw [if_neg hax] at ea
        rw [if_neg hbx] at eb
        exact h.d a b va vb k ea eb ka kb
  · refine (h.k.trans' g.k (fun i e => .inr (hold.2.1 i e))).trans' e3 (fun i e => .inl e)
end Go.Proofs.YtialookpnoaogaaGreat
/- lsa.layLinks, tell, walked. -/
namespace Go.Proofs.YtialookpnoaogaaGreat
open Go.RowKit

def linkB (l : LinkD) : List UInt8 := be 4 l.id ++ be 4 l.data ++ [UInt8.ofNat (lo8 l.type), 0] ++ be 2 (lo16 l.cost)
theorem linkB_len (l : LinkD) : (linkB l).length = 12 := by unfold linkB; simp [be_len]
def linksB (ls : List LinkD) : List UInt8 := ls.flatMap linkB
theorem linksB_len (ls : List LinkD) : (linksB ls).length = 12 * ls.length := by
  induction ls with
  | nil => rfl
  | cons n ns ih => unfold linksB at *; rw [List.flatMap_cons, List.length_append, ih, linkB_len, List.length_cons]; omega
theorem linksB_snoc (ls : List LinkD) (l : LinkD) : linksB (ls ++ [l]) = linksB ls ++ linkB l := by unfold linksB; simp
theorem link_one (a b c d : Int) : (#[.int .u32 a, .int .u32 b, .int .i64 c, .int .i64 d] : Array Value).all (·.oneCell') = true := by simp; exact ⟨rfl, rfl, rfl, rfl⟩
/-- an append, whatever it grows: the row's own block is another one than B -/
theorem Grown.ne {W W' : World} {v : Value} {p : Option Addr} {n c B : Nat} (g : Grown W v p n c W') (h : ∀ k, v.ownBlock = some k → k ≠ B) (hB : B < W.heap.size) : ∀ k, (Value.slice p n c).ownBlock = some k → k ≠ B := fun k e => by
  rcases g.s k e with e | e
  · exact h k e
  · omega
theorem Grown.range {W W' : World} {v : Value} {p : Option Addr} {n c B o : Nat} {cs : List Value} (g : Grown W v p n c W') (h : ∀ k, v.ownBlock = some k → k ≠ B) (hr : W.rangeAt B o cs) : W'.rangeAt B o cs :=
  g.k.rangeAt hr (fun e => h B e rfl)
theorem OwnB.keeps {w0 W W' : World} {v : Value} {xs : List UInt8} (h : OwnB w0 W v xs) (k : Keeps (fun _ => False) w0 W) {p : Option Addr} {n c : Nat} (g : Grown W v p n c W') : Keeps (fun _ => False) w0 W' :=
  k.trans' g.k (fun i e => .inr (h.2.1 i e))
theorem hXv {w0 W : World} {q : Option Addr} {n d : Nat} {X : List UInt8} (_ : X.length = n) (h : Hid (OwnB w0 W (.slice q n d) X)) : Hid (OwnB w0 W (.slice q n d) X) := h
/-- lays X ++ l as a new name -/
theorem new_name (X l : List UInt8) (n m : Nat) (hX : X.length = n) (hl : l.length = m) : ∃ Y, Y = X ++ l ∧ Y.length = n + m := ⟨X ++ l, rfl, by rw [List.length_append, hX, hl]⟩

end Go.Proofs.YtialookpnoaogaaGreat
/- lsa.tell, walked. -/
namespace Go.Proofs.YtialookpnoaogaaGreat
open Go.RowKit

def tellB (l : LsaD) : List UInt8 :=
  if l.type = 1 then be 4 l.links.length ++ linksB l.links
  else if l.type = 2 then be 4 l.mask ++ bes l.routers
  else be 4 l.mask ++ be 4 (lo32 l.cost)
theorem load_links (w : World) (b o : Nat) (v : Value) (h : w.cell? ⟨b, o, none⟩ = some v) : (loadVar 72 ⟨b, o, none⟩).run Tryz.prog w = .ok v w := by simp [go_sem, h]
theorem load_u32s (w : World) (b o : Nat) (v : Value) (h : w.cell? ⟨b, o, none⟩ = some v) : (loadVar 73 ⟨b, o, none⟩).run Tryz.prog w = .ok v w := by simp [go_sem, h]

theorem hO4 {w0 W : World} {q : Option Addr} {d m : Nat} (h : Hid (OwnB w0 W (.slice q 4 d) (be 4 m))) : Hid (OwnB w0 W (.slice q 4 d) (be 4 m)) := h
theorem old_block {w : World} {v : Value} {ns : List Nat} (h : NumsAt w v ns) (h0 : 0 < ns.length) (j : Nat) (e : v.ownBlock = some j) : j < w.heap.size ∧ True := by
  obtain ⟨p, c, rfl, -, -, hr⟩ := h
  obtain ⟨b, o, rfl, hra⟩ := hr h0
  simp only [Value.ownBlock, Option.some.injEq] at e
  subst e
  have := hra 0 (nv ns[0]) (by rw [List.getElem?_map, List.getElem?_eq_getElem h0]; rfl)
  exact ⟨World.block_lt_of_cell? w _ this, trivial⟩
end Go.Proofs.YtialookpnoaogaaGreat
/- sums.Internet, walked. -/
namespace Go.Proofs.YtialookpnoaogaaGreat
open Go.RowKit

theorem or_pair (x y : UInt8) : bits .or .u64 ((x.toNat : Int) * 256) (y.toNat : Int) = (x.toNat : Int) * 256 + y.toNat := by
  have hx := x.toNat_lt
  have hy := y.toNat_lt
  have h := u64_or_nat (x.toNat * 256) y.toNat (by omega) (by omega)
  rw [or_low] at h
  have e : ((x.toNat * 256 : Nat) : Int) = (x.toNat : Int) * 256 := by omega
  rw [e] at h
  refine h.trans ?_
  rw [Int.natCast_add, e]
theorem and_low (s : Nat) (h : s < 18446744073709551616) : bits .and .u64 (s : Int) 65535 = ((s % 65536 : Nat) : Int) := by
  have := u64_and_nat s 65535 h (by omega)
  rw [show (65535 : Nat) = 2 ^ 16 - 1 from rfl, Nat.and_two_pow_sub_one_eq_mod] at this
  exact this
theorem xor_ones (s : Nat) (h : s < 65536) : 65535 ^^^ s = 65535 - s := by
  apply Nat.eq_of_testBit_eq
  intro i
  have h1 := Nat.testBit_two_pow_sub_succ (x := s) (n := 16) h i
  have h2 := Nat.testBit_two_pow_sub_one 16 i
  rw [show 2 ^ 16 - (s + 1) = 65535 - s by omega] at h1
  rw [show 2 ^ 16 - 1 = 65535 from rfl] at h2
  rw [Nat.testBit_xor, h2, h1]
  by_cases hi : i < 16
  · simp [hi]
  · have hge : 16 ≤ i := by omega
    have : s.testBit i = false := Nat.testBit_lt_two_pow (Nat.lt_of_lt_of_le h (Nat.pow_le_pow_right (n := 2) (by omega) hge))
    simp [hi, this]
theorem not_low (s : Nat) (h : s < 65536) : bits .xor .u16 65535 (s : Int) = ((65535 - s : Nat) : Int) := by
  have := u16_xor_nat 65535 s (by omega) h
  rw [xor_ones s h] at this
  exact this
theorem isum_two (l : List UInt8) (j : Nat) (h : 2 * j + 1 < l.length) : isum true (l.take (2 * j + 2)) = isum true (l.take (2 * j)) + (l[2 * j].toNat * 256 + l[2 * j + 1].toNat) := by
  rw [List.take_succ_eq_append_getElem h, List.take_succ_eq_append_getElem (by omega), isum_snoc, isum_snoc]
  have h1 : (l.take (2 * j)).length = 2 * j := by simp; omega
  have p1 : par (l.take (2 * j)).length = true := by rw [h1]; unfold par; simp
  have p2 : par (l.take (2 * j) ++ [l[2 * j]]).length = false := by rw [List.length_append, h1]; unfold par; simp
  rw [p1, p2]; simp; omega
theorem isum_one (l : List UInt8) (j : Nat) (h : 2 * j + 1 = l.length) : isum true l = isum true (l.take (2 * j)) + l[2 * j].toNat * 256 := by
  have h1 : (l.take (2 * j)).length = 2 * j := by simp; omega
  have e : l = l.take (2 * j) ++ [l[2 * j]] := by rw [← List.take_succ_eq_append_getElem (by omega), h, List.take_length]
  have p1 : par (l.take (2 * j)).length = true := by rw [h1]; unfold par; simp
  conv => lhs; rw [e]
  rw [isum_snoc, p1]; simp

end Go.Proofs.YtialookpnoaogaaGreat
/- sums.Fletcher, walked. -/
namespace Go.Proofs.YtialookpnoaogaaGreat
open Go.RowKit

theorem bytes_tail {w : World} {g o c : Nat} {l : List UInt8} (h : w.rangeAt g o (l.map bv)) (hc : l.length ≤ c) (k : Nat) (hk : k ≤ l.length) :
    BytesAt w (.slice (if c = k then some ⟨g, o, none⟩ else some ⟨g, o + k, none⟩) (l.length - k) (c - k)) (l.drop k) := by
  by_cases e : c = k
  · rw [if_pos e]
    have hn : l.drop k = [] := List.drop_of_length_le (by omega)
    rw [hn, show l.length - k = 0 by omega]
    exact ⟨some ⟨g, o, none⟩, _, rfl, (fun h => nomatch h), Nat.zero_le _, fun h => by simp at h⟩
  · rw [if_neg e]
    have := range_part h k (l.length - k)
    rw [List.take_of_length_le (by simp)] at this
    exact BytesAt.of (by simp) (by omega) this
theorem bytes_head {w : World} {g o c : Nat} {l : List UInt8} (h : w.rangeAt g o (l.map bv)) (hc : l.length ≤ c) (k : Nat) (hk : k ≤ l.length) :
    BytesAt w (.slice (some ⟨g, o, none⟩) k c) (l.take k) := by
  have := range_part h 0 k
  exact BytesAt.of (by simp; omega) (by omega) (by simpa using this)

end Go.Proofs.YtialookpnoaogaaGreat
/- lsa.Put, walked. -/
namespace Go.Proofs.YtialookpnoaogaaGreat
open Go.RowKit

/-- a row of the call's own may be written -/
theorem OwnB.writes {w0 w : World} {q : Option Addr} {n c : Nat} {xs : List UInt8} (h : OwnB w0 w (.slice q n c) xs) (h0 : 0 < xs.length) :
    ∃ g, q = some ⟨g, 0, none⟩ ∧ w0.heap.size ≤ g ∧ (∀ k, (hk : k < xs.length) → w.cell? ⟨g, k, none⟩ = some (.int .u8 (xs[k]).toNat) ∧ w.frozen? ⟨g, k, none⟩ = false) ∧
      ∀ (k : Nat) (b : UInt8), OwnB w0 (w.setCell ⟨g, k, none⟩ (.int .u8 b.toNat)) (.slice q n c) (xs.set k b) := by
  obtain ⟨⟨h1, h2⟩, h3, h4⟩ := h
  rcases h2 with ⟨e, _⟩ | ⟨g, cap, cur, e, _, hg, hn, hm, hs, ht⟩
  · injection e with e1 e2 e3; omega
  · injection e with e1 e2 e3
    subst e1; subst e3
    have hl : xs.length * 1 = (xs.map bv).length := by simp
    refine ⟨g, rfl, h3 g rfl, fun k hk => ⟨?_, ?_⟩, fun k b => ⟨⟨by simp, .inr ⟨g, c, cur.setIfInBounds k (.int .u8 b.toNat), by simpa using e2, Nat.zero_le _, heap_put hg k _, by simpa using hn, hm, by simpa using hs, ?_⟩⟩, h3, by simp only [World.setCell, Array.size_modify]; exact h4⟩⟩
    · have hk2 : k < cur.size := by rw [hs]; omega
      have : cur.toList[k]? = some (.int .u8 (xs[k]).toNat) := by
        have e4 : (cur.toList.take (xs.length * 1))[k]? = (xs.map bv)[k]? := by rw [ht]
        rw [List.getElem?_take, if_pos (by omega)] at e4
        rw [e4]; simp [hk, bv]
      simp only [World.cell?, hg]
      simpa using this
    · simp [World.frozen?, hg]
    · simp only [List.length_set, Array.toList_setIfInBounds, List.map_set]
      rw [List.take_set, ht]; rfl

theorem OwnB.cap {w0 w : World} {q : Option Addr} {n c : Nat} {xs : List UInt8} (h : OwnB w0 w (.slice q n c) xs) : n ≤ c := by
  rcases h.1.2 with ⟨e, _⟩ | ⟨g, cap, cur, e, _, _, hn, _⟩
  · injection e with e1 e2 e3; omega
  · injection e with e1 e2 e3; omega
theorem own_drop {w0 w : World} {g n c : Nat} {xs : List UInt8} (h : OwnB w0 w (.slice (some ⟨g, 0, none⟩) n c) xs) (i : Nat) : w.rangeAt g i ((xs.drop i).map bv) := by
  obtain ⟨p, c', e, -, -, hr⟩ := h.bytes
  injection e with e1 e2 e3
  by_cases h0 : 0 < xs.length
  · obtain ⟨b, o, e4, hra⟩ := hr h0
    rw [e4] at e1; injection e1 with e1; injection e1 with e1 e5
    subst e1; subst e5
    have := range_part hra i (xs.length - i)
    rw [List.take_of_length_le (by simp), Nat.zero_add] at this
    exact this
  · have : xs = [] := List.length_eq_zero_iff.1 (by omega)
    subst this
    intro j u hu; simp at hu
theorem lsaInfo : (Tryz.prog.info? 75).map (·.size) = some 9 := by kernel_rfl
theorem keyInfo : (Tryz.prog.info? 71).map (·.size) = some 3 := by kernel_rfl
theorem hv20 {w0 W : World} {q : Option Addr} {n d : Nat} {X : List UInt8} (_ : X.length = n) (h : Hid (OwnB w0 W (.slice q n d) X)) : Hid (OwnB w0 W (.slice q n d) X) := h
theorem append_name {w0 W : World} {q : Option Addr} {d n N : Nat} {X l Y : List UInt8} (hX : X.length = n) (hN : N = n + l.length) (hY : X ++ l = Y) (h : Hid (OwnB w0 W (.slice q (X.length + l.length) d) (X ++ l))) : Hid (OwnB w0 W (.slice q N d) Y) := by
  have := h.out
  rw [hY, hX, ← hN] at this
  exact Lib.hid this
/-- an Lsa's bytes, without its sum -/
def baseB (l : LsaD) : List UInt8 := headB ⟨l.age, l.type, l.id, l.adv, l.seq, 0, 20 + ((tellB l).length : Int)⟩ ++ tellB l
/-- .. with it -/
def putB (l : LsaD) : List UInt8 :=
  ((baseB l).set 16 (UInt8.ofNat (flX (zed ((baseB l).drop 2) 14) ((baseB l).length - 2) 14))).set 17 (UInt8.ofNat (flY (zed ((baseB l).drop 2) 14) ((baseB l).length - 2) 14))
theorem baseB_len (l : LsaD) : (baseB l).length = 20 + (tellB l).length := by unfold baseB; rw [List.length_append, headB_len]
theorem putB_len (l : LsaD) : (putB l).length = 20 + (tellB l).length := by unfold putB; simp [baseB_len]
theorem canB_told {l : LsaD} (h : canB l = true) : toldB l = true := by
  unfold canB at h
  simp at h
  exact h.2.2
theorem canB_lens {l : LsaD} (h : canB l = true) : l.links.length ≤ 40 ∧ l.routers.length ≤ 40 := by
  have h2 := canB_told h
  unfold toldB withinB at h2
  split at h2
  · simp only [Bool.and_eq_true, decide_eq_true_eq] at h2; omega
  · split at h2
    · simp only [Bool.and_eq_true, decide_eq_true_eq] at h2; omega
    · split at h2
      · simp only [Bool.and_eq_true, decide_eq_true_eq] at h2; omega
      · cases h2
theorem tellB_len {l : LsaD} (h1 : l.links.length ≤ 40) (h2 : l.routers.length ≤ 40) : 4 ≤ (tellB l).length ∧ (tellB l).length ≤ 484 := by
  unfold tellB
  split
  · rw [List.length_append, be_len, linksB_len]; omega
  · split
    · rw [List.length_append, be_len, bes_len]; omega
    · rw [List.length_append, be_len, be_len]; omega


end Go.Proofs.YtialookpnoaogaaGreat
/- lsa.Head, walked. -/
namespace Go.Proofs.YtialookpnoaogaaGreat
open Go.RowKit

def sub (x : List UInt8) (i n : Nat) : List UInt8 := (x.drop i).take n
theorem sub_len {x : List UInt8} {i n : Nat} (h : i + n ≤ x.length) : (sub x i n).length = n := by unfold sub; simp; omega
/-- the number of 32 bits, with a sign -/
def sgn32 (n : Nat) : Int := if n < 2147483648 then (n : Int) else (n : Int) - 4294967296
/-- what 20 bytes tell -/
def headOf (x : List UInt8) : HeadD := ⟨(beVal (sub x 0 2) : Nat), ((x.getD 3 0).toNat : Int), beVal (sub x 4 4), beVal (sub x 8 4), sgn32 (beVal (sub x 12 4)), beVal (sub x 16 2), (beVal (sub x 18 2) : Nat)⟩
theorem bytes_sub {w : World} {g o c : Nat} {l : List UInt8} (h : w.rangeAt g o (l.map bv)) (hc : l.length ≤ c) (i n : Nat) (hi : i + n ≤ l.length) :
    BytesAt w (.slice (some ⟨g, o + i, none⟩) n (c - i)) (sub l i n) := by
  have := range_part h i n
  exact BytesAt.of (sub_len hi) (by omega) this

theorem sub_lt {x : List UInt8} {i n : Nat} (h : i + n ≤ x.length) : beVal (sub x i n) < 256 ^ n := by
  have := beVal_lt (sub x i n)
  rwa [sub_len h] at this
theorem sgn32_wrap (n : Nat) (h : n < 4294967296) : IntKind.i32.wrap (n : Int) = sgn32 n := by
  unfold IntKind.wrap sgn32
  have h1 : IntKind.i32.signed = true := rfl
  have h2 : (2 : Int) ^ IntKind.i32.bits = 4294967296 := rfl
  have h3 : (2 : Int) ^ (IntKind.i32.bits - 1) = 2147483648 := rfl
  simp only [h1, h2, h3, Bool.true_and, ge_iff_le, decide_eq_true_eq]
  split <;> split <;> omega
theorem sgn32_lo (n : Nat) (h : n < 4294967296) : -2147483648 ≤ sgn32 n := by unfold sgn32; split <;> omega
theorem sgn32_hi (n : Nat) (h : n < 4294967296) : sgn32 n ≤ 2147483647 := by unfold sgn32; split <;> omega
theorem head_one (a b c d x f g : Int) : (#[.int .i64 a, .int .i64 b, .int .u32 c, .int .u32 d, .int .i64 x, .int .u16 f, .int .i64 g] : Array Value).all (·.oneCell') = true := by simp; exact ⟨rfl, rfl, rfl, rfl, rfl, rfl, rfl⟩
end Go.Proofs.YtialookpnoaogaaGreat
/- wire.Read of bytes of whatever count, ReadAll; lsa.readLinks: walked. -/
namespace Go.Proofs.YtialookpnoaogaaGreat
open Go.RowKit

theorem or_low32m (m : Nat) (c : UInt8) : bits .or .u32 (((m * 256 % 4294967296 : Nat) : Int)) (c.toNat : Int) = (((m * 256 + c.toNat) % 4294967296 : Nat) : Int) := by
  have hc := c.toNat_lt
  have h := u32_or_nat (m * 256 % 4294967296) c.toNat (Nat.mod_lt _ (by omega)) (by omega)
  rw [show m * 256 % 4294967296 = (m % 16777216) * 256 by omega, or_low] at h
  rw [show m * 256 % 4294967296 = (m % 16777216) * 256 by omega, h]
  omega
/-- numbers of the call's own -/
def OwnN (w0 w : World) (v : Value) (ns : List Nat) : Prop :=
  w.ownsRow 0 40 1 v ns.length (ns.map nv) ∧ (∀ k, v.ownBlock = some k → w0.heap.size ≤ k) ∧ w0.heap.size ≤ w.heap.size
theorem OwnN.nil (w0 w : World) (h : w0.heap.size ≤ w.heap.size) : OwnN w0 w (.slice none 0 0) [] := ⟨⟨rfl, .inl ⟨rfl, rfl⟩⟩, by simp [Value.ownBlock], h⟩
theorem OwnN.slice {w0 w : World} {v : Value} {xs : List Nat} (h : OwnN w0 w v xs) : ∃ p c, v = .slice p xs.length c := ownsRow_slice h.1
theorem OwnN.keep {F : Nat → Prop} {w0 w w' : World} {v : Value} {xs : List Nat} (h : OwnN w0 w v xs) (k : Keeps F w w') (hF : ∀ i, v.ownBlock = some i → ¬ F i) : OwnN w0 w' v xs :=
  ⟨k.ownsRow h.1 hF, h.2.1, Nat.le_trans h.2.2 k.size⟩
theorem OwnN.at {w0 w : World} {v : Value} {x : List Nat} (h : OwnN w0 w v x) : NumsAt w v x := by
  obtain ⟨p, c, rfl⟩ := h.slice
  rcases h.1.2 with ⟨e, h2⟩ | ⟨g, cap, cur, he, _, _, hle, _⟩
  · injection e with e1 e2 e3; subst e1; subst e3
    exact ⟨none, 0, rfl, fun _ => rfl, by omega, fun h0 => by omega⟩
  · injection he with e1 e2 e3
    subst e1; subst e3
    refine ⟨_, _, rfl, fun h => (by cases h), hle, fun h0 => ⟨g, 0, rfl, fun j u hu => ?_⟩⟩
    have := h.1.cells (g := g) rfl j u hu
    rw [Addr.add_mid] at this
    exact this
theorem OwnN.push {w0 w wb w1 : World} {v : Value} {xs : List Nat} (h : OwnN w0 wb v xs) (x : Nat) {p : Option Addr} {c : Nat}
    (ho : wb.grownBy w1 v.ownBlock) (h2 : w1.ownsRow 0 40 1 (.slice p (xs.length + 1) c) (xs.length + 1) (xs.map nv ++ [nv x]))
    (hs : ∀ k, (Value.slice p (xs.length + 1) c).ownBlock = some k → v.ownBlock = some k ∨ wb.heap.size ≤ k) (hk : Keeps (fun _ => False) w0 wb) (_ : w = w) :
    OwnN w0 w1 (.slice p (xs.length + 1) c) (xs ++ [x]) ∧ Keeps (fun _ => False) w0 w1 := by
  refine ⟨⟨by simpa using h2, fun k e => ?_, Nat.le_trans h.2.2 ho.size⟩, hk.grown ho (fun k e => .inr (h.2.1 k e))⟩
  rcases hs k e with e | e
  · exact h.2.1 k e
  · exact Nat.le_trans h.2.2 e
def readN (l : List UInt8) (j : Nat) : List Nat := (List.range j).map fun i => beVal (sub l (4 * i) 4)
theorem readN_len (l : List UInt8) (j : Nat) : (readN l j).length = j := by unfold readN; simp
theorem readN_succ (l : List UInt8) (j : Nat) : readN l (j + 1) = readN l j ++ [beVal (sub l (4 * j) 4)] := by unfold readN; simp [List.range_succ]
end Go.Proofs.YtialookpnoaogaaGreat
