/- The document's Text of any right configuration, walked (gen_cgs.py). -/
import Derived.Test.YtdjmhjgfjbcdkaaW12
import Derived.Deep.DeepCutAuto
import Derived.BigQuiet
import Derived.Test.YtdjmhjgfjbcdkaaW02
import Derived.Test.YtdjmhjgfjbcdkaaW10
import Derived.Test.YtdjmhjgfjbcdkaaW09
import Derived.Test.YtdjmhjgfjbcdkaaW06
import Derived.Test.YtdjmhjgfjbcdkaaW11
set_option linter.unusedVariables false
set_option linter.unusedSimpArgs false
namespace Go.Proofs.Ytdjmhjgfjbcdkaa
open Go.RowKit

theorem line_head {l : LineD} (h : lineB l = true) : l.head = 0 ∨ l.head = 1 ∨ l.head = 2 := by
  unfold lineB at h
  cases hf : findD l.head l.leaf with
  | none => rw [hf] at h; cases h
  | some r =>
    have hm : r ∈ tableD := List.mem_of_find?_eq_some hf
    have hp := List.find?_some hf
    rw [decide_eq_true_eq] at hp
    have hall : ∀ q ∈ tableD, q.head = 0 ∨ q.head = 1 ∨ q.head = 2 := by decide
    rw [← hp.1]; exact hall r hm

theorem firstC_yes {p q : LineD} (h1 : p.head = q.head) (h2 : p.name = q.name) : firstC (some p) q = [] := by unfold firstC sameC; simp [h1, h2]
theorem firstC_no {p q : LineD} (h : ¬ (p.head = q.head ∧ p.name = q.name)) : firstC (some p) q = headC q.head ++ [32] ++ q.name ++ [32, 123, 10] := by
  unfold firstC sameC; simp only; rw [if_neg (by simpa using h)]
theorem lastC_yes {p q : LineD} (h1 : p.head = q.head) (h2 : p.name = q.name) : lastC p (some q) = [] := by unfold lastC sameC; simp [h1, h2]
theorem lastC_no {p q : LineD} (h : ¬ (p.head = q.head ∧ p.name = q.name)) : lastC p (some q) = [125, 10] := by
  unfold lastC sameC; simp only; rw [if_neg (by simpa using h)]
theorem notdec_nil {a : List UInt8} (h : a = []) : (!decide (a = [])) = false := by subst h; rfl
theorem notdec_cons {a b : List UInt8} {x : UInt8} (h : a = b ++ [x]) : (!decide (a = [])) = true := by subst h; simp
theorem list_ends (a b : List UInt8) : a ++ [32] ++ b ++ [32, 123, 10] = (a ++ [32] ++ b ++ [32, 123]) ++ [10] := by simp
theorem ba_of' {N : ByteArray} {l : List UInt8} (h : N.data.toList = l) : N = ⟨l.toArray⟩ := by subst h; rfl
set_option maxRecDepth 100000 in
set_option maxHeartbeats 32000000 in
theorem rText_c (v : Value) (ls : List LineD) (T : ByteArray) (w : World) (hv : Hid (RowsAt 4 lineVals w v ls)) (hr : Hid (rightC ls = true)) (hT : Hid (T = ⟨(textK ls ls.length).toArray⟩)) :
    Calls Try.prog 22 #[v] w (NewRes (.string T) w) := by
  have hlen := right_len hr.out
  have hlt := Lib.hid (right_lt hr.out 8796093022000 (by omega))
  have hsm := Lib.hid (fun q hq => line_small (right_line hr.out q hq))
  have hhd := Lib.hid (fun q hq => line_head (right_line hr.out q hq))
  have htl := Lib.hid (textK_len hsm.out)
  obtain ⟨p, c, rfl⟩ := hv.out.slice
  have hLn := Lib.hid hv.out.lines
  go_enter Try.func22, Try.ntmps22
  go_wp2_with fail
  refine (rRight_c _ ls true _ hLn (by omega) hlt hr).mono ?_
  rintro e w2 ⟨rfl, k2⟩
  have k2' := Lib.hid k2
  have hv2 := Lib.hid (hv.out.keep k2)
  clear k2 hLn hlt hr hv
  go_wp2_with fail
  go_loopw [4, 3] (fun iv ov wr => ∃ (k : Nat) (S : ByteArray), k ≤ ls.length ∧ iv = .int .i64 k ∧ ov = .string S ∧ Hid (S.data.toList = textK ls k) ∧ Hid (Keeps (fun _ => False) w2 wr)) (fun iv _ _ => ls.length - (intOf iv).toNat)
  case atStart => exact ⟨0, ⟨#[]⟩, by omega, rfl, rfl, Lib.hid rfl, Lib.hid (Keeps.refl _ _)⟩
  case round =>
    obtain ⟨k, S, hk, rfl, rfl, hS, hKr⟩ := hrel
    have htk := htl.out k
    rw [← hS.out] at htk
    have sS : S.size ≤ 30000 := by
      have e : S.data.toList.length = S.size := by simp
      omega
    clear htk
    by_cases hlk : k < ls.length
    · obtain ⟨g, o, rfl, hrows⟩ := hv2.out.open (by omega)
      obtain ⟨q, hq⟩ : ∃ q, ls[k]? = some q := ⟨_, List.getElem?_eq_getElem hlk⟩
      obtain ⟨z1, z2, z3⟩ := hsm.out q (List.mem_of_getElem? hq)
      have hh := Lib.hid (hhd.out q (List.mem_of_getElem? hq))
      obtain ⟨N, hN⟩ : ∃ N : ByteArray, N = ⟨q.name.toArray⟩ := ⟨_, rfl⟩
      obtain ⟨F, hF⟩ : ∃ N : ByteArray, N = ⟨q.leaf.toArray⟩ := ⟨_, rfl⟩
      obtain ⟨V, hV⟩ : ∃ N : ByteArray, N = ⟨q.value.toArray⟩ := ⟨_, rfl⟩
      have sN : N.size ≤ 100 := by rw [hN]; exact z1
      have sF : F.size ≤ 100 := by rw [hF]; exact z2
      have sV : V.size ≤ 100 := by rw [hV]; exact z3
      have hrw : Hid (wr.rangeAt g (o + k * 4) [.int .i64 q.head, .string N, .string F, .string V]) := Lib.hid (by rw [hN, hF, hV]; exact hKr.out.rangeAt (hrows k q hq) id)
      have hNl : Hid (N.data.toList = q.name) := Lib.hid (by rw [hN])
      have hwl : Hid (F.data.toList ++ [32] ++ V.data.toList ++ [59, 10] = writtenC q) := Lib.hid (by rw [hF, hV]; rfl)
      have hstep := Lib.hid (textK_step hq)
      rw [← hS.out] at hstep
      have hrows' := Lib.hid hrows
      have hq' := Lib.hid hq
      have hBx : Hid (BlkAt (wr.alloc (.cells #[.int .i64 q.head, .string N, .string F, .string V] 28)) wr.heap.size 28 [.int .i64 q.head, .string N, .string F, .string V]) := Lib.hid (BlkAt.new _ _ _)
      have hKx : Hid (Keeps (fun _ => False) w2 (wr.alloc (.cells #[.int .i64 q.head, .string N, .string F, .string V] 28))) := Lib.hid (hKr.out.alloc _)
      have m1 : (0 : Int) ≤ (k : Int) := by omega
      have m2 : (k : Int) < (ls.length : Int) := by omega
      clear hrows hN hF hV hq z1 z2 z3 hS
      have c0 := hBx.out.cell 0 _ rfl
      have c2 := hBx.out.cell 2 _ rfl
      have c3 := hBx.out.cell 3 _ rfl
      go_upto_region 8 with (first | ((with_reducible refine at_slot 19 ?_); refine wpList_load_mid rfl 28 (.tmp 18) rfl g (o + k * 4) rfl [.int .i64 q.head, .string N, .string F, .string V] _ hrw.out Try.underlying28 rfl line5InfoG ?_) | ((with_reducible refine at_store 5 ?_); refine wpList_store_new rfl 28 (.tmp 5) (.tmp 19) rfl _ #[.int .i64 q.head, .string N, .string F, .string V] rfl rfl line5InfoG rfl (line_one _ _ _ _) ?_))
      generalize hgx : wr.heap.size = gx at hBx c0 c2 c3 ⊢
      generalize hWx : wr.alloc (.cells #[.int .i64 q.head, .string N, .string F, .string V] 28) = Wx at hBx hKx c0 c2 c3 ⊢
      clear hgx hWx hrw hKr
      by_cases a0 : q.head = 0
      · have e0 : (q.head == 0) = true := by simp [a0]
        have a0' := Lib.hid a0; clear a0
        have hfin : Hid ((S ++ F ++ ⟨#[32]⟩ ++ V ++ ⟨#[59, 10]⟩).data.toList = textK ls (k + 1)) := Lib.hid (by rw [hstep.out]; unfold pieceC; rw [if_pos a0'.out, ← hwl.out]; simp)
        go_wp2_with fail
        exact ⟨⟨k + 1, _, by omega, by go_num, rfl, hfin, hKx⟩, by simp [intOf]; omega⟩
      · have e0 : (q.head == 0) = false := by simpa using a0
        have a0' := Lib.hid a0; clear a0 c2 c3
        obtain ⟨fb, hfb⟩ : ∃ fb : Bool, fb = !(decide (firstC (prevOf ls k) q = [])) := ⟨_, rfl⟩
        have hfb' := Lib.hid hfb; clear hfb
        go_upto_region 10 with fail
        go_cut [55] (fun tv wx => tv = .bool fb ∧ Hid (BlkAt wx gx 28 [.int .i64 q.head, .string N, .string F, .string V]) ∧ Hid (Keeps (fun _ => False) w2 wx))
        case first =>
          by_cases k0 : k = 0
          · have e1 : ((k : Int) == 0) = true := by simp [k0]
            have hf1 : fb = true := by rw [hfb'.out, k0]; exact notdec_cons ((show firstC (prevOf ls 0) q = headC q.head ++ [32] ++ q.name ++ [32, 123, 10] from rfl).trans (list_ends _ _))
            have hf2 := Lib.hid hf1; clear hf1 k0 c0
            go_quiet (fail)
            have hB1 := Lib.hid (hBx.out.keep ((Keeps.refl (fun _ => False) _).drewN nq) id)
            have hK1 := Lib.hid (hKx.out.drewN nq)
            go_wp2_with fail
            go_meet
            case rel => exact ⟨by rw [hf2.out], hB1, hK1⟩
          · have e1 : ((k : Int) == 0) = false := by simp; omega
            obtain ⟨j, hj⟩ : ∃ j, k = j + 1 := ⟨k - 1, by omega⟩
            obtain ⟨b, hbq⟩ : ∃ b, ls[j]? = some b := ⟨_, List.getElem?_eq_getElem (by omega)⟩
            have hpv : prevOf ls k = some b := by rw [hj]; exact hbq
            obtain ⟨Nb, hNb⟩ : ∃ N : ByteArray, N = ⟨b.name.toArray⟩ := ⟨_, rfl⟩
            obtain ⟨Fb, hFb⟩ : ∃ N : ByteArray, N = ⟨b.leaf.toArray⟩ := ⟨_, rfl⟩
            obtain ⟨Vb, hVb⟩ : ∃ N : ByteArray, N = ⟨b.value.toArray⟩ := ⟨_, rfl⟩
            have hprev : Hid (Wx.rangeAt g (o + j * 4) [.int .i64 b.head, .string Nb, .string Fb, .string Vb]) := Lib.hid (by rw [hNb, hFb, hVb]; exact hKx.out.rangeAt (hrows'.out j b hbq) id)
            have hNbl : Hid (Nb.data.toList = b.name) := Lib.hid (by rw [hNb])
            have l1 : IntKind.i64.wrap ((k : Int) - 1) = (j : Int) := by rw [IntWalk.i64_in _ (by omega)]; omega
            have l3 : (0 : Int) ≤ (j : Int) := by omega
            have l4 : (j : Int) < ls.length := by omega
            have hpv' := Lib.hid hpv
            clear hNb hFb hVb hbq hj k0 hpv
            by_cases a1 : b.head = q.head
            · have e2 : (b.head != q.head) = false := by simp [a1]
              have a1' := Lib.hid a1; clear a1 c0
              by_cases a2 : Nb.data.toList = N.data.toList
              · have e3 := beq_list a2
                have hf1 : fb = false := by rw [hfb'.out, hpv'.out]; exact notdec_nil (firstC_yes a1'.out (by rw [← hNbl.out, a2, hNl.out]))
                have hf2 := Lib.hid hf1; clear hf1 a2
                have r0 := hprev.out 0 _ rfl
                have v0 := hBx.out.cell 0 _ rfl
                simp only [Nat.add_zero] at r0
                have r1 := hprev.out 1 _ rfl
                have v1 := hBx.out.cell 1 _ rfl
                go_quiet (fail)
                have hB2 := Lib.hid (hBx.out.keep ((Keeps.refl (fun _ => False) _).drewN nq) id)
                have hK2 := Lib.hid (hKx.out.drewN nq)
                clear r0 v0 r1 v1
                go_wp2_with fail
                go_meet
                case rel => exact ⟨by rw [hf2.out], hB2, hK2⟩
              · have e3 := bne_list a2
                have hf1 : fb = true := by rw [hfb'.out, hpv'.out]; exact notdec_cons ((firstC_no (fun e => a2 (by rw [hNbl.out, hNl.out, e.2]))).trans (list_ends _ _))
                have hf2 := Lib.hid hf1; clear hf1 a2
                have r0 := hprev.out 0 _ rfl
                have v0 := hBx.out.cell 0 _ rfl
                simp only [Nat.add_zero] at r0
                have r1 := hprev.out 1 _ rfl
                have v1 := hBx.out.cell 1 _ rfl
                go_quiet (fail)
                have hB3 := Lib.hid (hBx.out.keep ((Keeps.refl (fun _ => False) _).drewN nq) id)
                have hK3 := Lib.hid (hKx.out.drewN nq)
                clear r0 v0 r1 v1
                go_wp2_with fail
                go_meet
                case rel => exact ⟨by rw [hf2.out], hB3, hK3⟩
            · have e2 : (b.head != q.head) = true := by simp [a1]
              have hf1 : fb = true := by rw [hfb'.out, hpv'.out]; exact notdec_cons ((firstC_no (fun e => a1 e.1)).trans (list_ends _ _))
              have hf2 := Lib.hid hf1; clear hf1 a1 c0
              have r0 := hprev.out 0 _ rfl
              have v0 := hBx.out.cell 0 _ rfl
              simp only [Nat.add_zero] at r0
              go_quiet (fail)
              have hB4 := Lib.hid (hBx.out.keep ((Keeps.refl (fun _ => False) _).drewN nq) id)
              have hK4 := Lib.hid (hKx.out.drewN nq)
              clear r0 v0
              go_wp2_with fail
              go_meet
              case rel => exact ⟨by rw [hf2.out], hB4, hK4⟩
        case rest =>
          obtain ⟨rfl, hBy, hKy⟩ := hcut
          clear c0 hBx hKx
          generalize wc = Wy at hBy hKy ⊢
          go_upto_if 55 with fail
          go_cut [3] (fun ov wx => (∃ S2 : ByteArray, ov = .string S2 ∧ S2.size ≤ 30200 ∧ Hid (S2.data.toList = S.data.toList ++ firstC (prevOf ls k) q)) ∧ Hid (BlkAt wx gx 28 [.int .i64 q.head, .string N, .string F, .string V]) ∧ Hid (Keeps (fun _ => False) w2 wx))
          case first =>
            cases fb with
            | false =>
              have hfn : firstC (prevOf ls k) q = [] := by have := hfb'.out; simpa using this
              have hfn' := Lib.hid hfn; clear hfn hfb'
              go_wp2_with fail
              go_meet
              case rel => exact ⟨⟨S, rfl, by omega, Lib.hid (by rw [hfn'.out]; simp)⟩, hBy, hKy⟩
            | true =>
              have hfe : firstC (prevOf ls k) q = headC q.head ++ [32] ++ q.name ++ [32, 123, 10] := by
                have h : ¬ firstC (prevOf ls k) q = [] := by have := hfb'.out; simpa using this
                unfold firstC at h ⊢
                split
                · split
                  · rename_i a b; simp only [a] at h; rw [if_pos b] at h; exact absurd rfl h
                  · rfl
                · rfl
              have hfe' := Lib.hid hfe; clear hfe hfb'
              rcases hh.out with hh0 | hh1 | hh2
              · exact absurd hh0 a0'.out
              · have hhc := Lib.hid hh1; clear hh1
                have hB0 : Hid (BlkAt Wy gx 28 [.int .i64 1, .string N, .string F, .string V]) := Lib.hid (by have := hBy.out; rw [hhc.out] at this; exact this)
                have q1 : ¬ (9223372036854775807 < S.size + 5) := by omega
                have q2 : ¬ (9223372036854775807 < S.size + 5 + N.size) := by omega
                have q3 : ¬ (9223372036854775807 < S.size + 5 + N.size + 3) := by omega
                go_upto_region 11 with fail
                refine wp_region_noPanic ?_
                refine wp_region_held_drew (S := (fun W => Keeps (fun _ => False) Wy W)) (by kernel_rfl) (((Keeps.refl _ _).drew)) (fun hHeld => ?_)
                refine tk 0 rfl ?_
                refine tk 2 rfl ?_
                refine tkL 3 rfl (yieldsIf_load_cell (by rfl) 3 (.tmp 58) rfl gx 0 rfl _ (fun _ s => (hB0.out.keep s id).cell 0 _ rfl) (fun w s => load_int w _ _ _ s)) ?_
                refine tk 7 rfl ?_
                refine tkL 8 rfl (yieldsIf_load_cell (by rfl) 9 (.tmp 63) rfl gx 1 rfl _ (fun _ s => (hB0.out.keep s id).cell 1 _ rfl) (fun w s => load_str w _ _ _ s)) ?_
                refine stepL 1 rfl (by kernel_rfl) (fun K hK => ?_)
                go_simp
                refine hK.out _ _ ((hHeld.alloc _)) (fun hHeld => ?_)
                clear hK K
                try simp only [Act.put, sA, sZ, sS]
                refine tk 4 rfl ?_
                refine stepL 5 rfl (by kernel_rfl) (fun K hK => ?_)
                go_simp
                refine hK.out _ _ (hHeld) (fun hHeld => ?_)
                clear hK K
                try simp only [Act.put, sA, sZ, sS]
                refine tk 6 rfl ?_
                refine tk 9 rfl ?_
                refine tk 10 rfl ?_
                refine tk 11 rfl ?_
                refine wpAnyH_done (by kernel_rfl) (NoPanic.normal ?_) _
                have hB7 := Lib.hid (hBy.out.keep hHeld id)
                have hK7 := Lib.hid (hKy.out.trans hHeld)
                clear hHeld hB0
                go_wp2_with fail
                go_meet
                case rel => exact ⟨⟨_, rfl, by simp only [ByteArray.size_append]; show S.size + 5 + N.size + 3 ≤ 30200; omega, Lib.hid (by rw [hfe'.out, hhc.out, ← hNl.out]; simp [headC])⟩, hB7, hK7⟩
              · have hhc := Lib.hid hh2; clear hh2
                have hB0 : Hid (BlkAt Wy gx 28 [.int .i64 2, .string N, .string F, .string V]) := Lib.hid (by have := hBy.out; rw [hhc.out] at this; exact this)
                have q1 : ¬ (9223372036854775807 < S.size + 10) := by omega
                have q2 : ¬ (9223372036854775807 < S.size + 10 + N.size) := by omega
                have q3 : ¬ (9223372036854775807 < S.size + 10 + N.size + 3) := by omega
                go_upto_region 11 with fail
                refine wp_region_noPanic ?_
                refine wp_region_held_drew (S := (fun W => Keeps (fun _ => False) Wy W)) (by kernel_rfl) (((Keeps.refl _ _).drew)) (fun hHeld => ?_)
                refine tk 0 rfl ?_
                refine tk 2 rfl ?_
                refine tkL 3 rfl (yieldsIf_load_cell (by rfl) 3 (.tmp 58) rfl gx 0 rfl _ (fun _ s => (hB0.out.keep s id).cell 0 _ rfl) (fun w s => load_int w _ _ _ s)) ?_
                refine tk 7 rfl ?_
                refine tkL 8 rfl (yieldsIf_load_cell (by rfl) 9 (.tmp 63) rfl gx 1 rfl _ (fun _ s => (hB0.out.keep s id).cell 1 _ rfl) (fun w s => load_str w _ _ _ s)) ?_
                refine stepL 1 rfl (by kernel_rfl) (fun K hK => ?_)
                go_simp
                refine hK.out _ _ ((hHeld.alloc _)) (fun hHeld => ?_)
                clear hK K
                try simp only [Act.put, sA, sZ, sS]
                refine tk 4 rfl ?_
                refine stepL 5 rfl (by kernel_rfl) (fun K hK => ?_)
                go_simp
                refine hK.out _ _ (hHeld) (fun hHeld => ?_)
                clear hK K
                try simp only [Act.put, sA, sZ, sS]
                refine tk 6 rfl ?_
                refine tk 9 rfl ?_
                refine tk 10 rfl ?_
                refine tk 11 rfl ?_
                refine wpAnyH_done (by kernel_rfl) (NoPanic.normal ?_) _
                have hB7 := Lib.hid (hBy.out.keep hHeld id)
                have hK7 := Lib.hid (hKy.out.trans hHeld)
                clear hHeld hB0
                go_wp2_with fail
                go_meet
                case rel => exact ⟨⟨_, rfl, by simp only [ByteArray.size_append]; show S.size + 10 + N.size + 3 ≤ 30200; omega, Lib.hid (by rw [hfe'.out, hhc.out, ← hNl.out]; simp [headC])⟩, hB7, hK7⟩
          case rest =>
            obtain ⟨⟨S2, rfl, sS2, hS2⟩, hBz, hKz⟩ := hcut
            clear hBy hKy hfb'
            generalize wc = Wz at hBz hKz ⊢
            have d2 := hBz.out.cell 2 _ rfl
            have d3 := hBz.out.cell 3 _ rfl
            obtain ⟨lb, hlb⟩ : ∃ lb : Bool, lb = !(decide (lastC q (ls[k + 1]?) = [])) := ⟨_, rfl⟩
            have hlb' := Lib.hid hlb; clear hlb
            have hwn : IntKind.i64.wrap ((ls.length : Int) - 1) = (ls.length : Int) - 1 := IntWalk.i64_in _ (by omega)
            go_upto_region 13 with fail
            clear d2 d3
            go_cut [103] (fun tv wx => tv = .bool lb ∧ Hid (Keeps (fun _ => False) w2 wx))
            case first =>
              by_cases hlast : k + 1 = ls.length
              · have el : ((k : Int) == (ls.length : Int) - 1) = true := by simp; omega
                have hf1 : lb = true := by rw [hlb'.out, List.getElem?_eq_none (by omega)]; rfl
                have hf2 := Lib.hid hf1; clear hf1 hlast
                go_quiet (fail)
                have hB5 := Lib.hid (hBz.out.keep ((Keeps.refl (fun _ => False) _).drewN nq) id)
                have hK5 := Lib.hid (hKz.out.drewN nq)
                go_wp2_with fail
                go_meet
                case rel => exact ⟨by rw [hf2.out], hK5⟩
              · have el : ((k : Int) == (ls.length : Int) - 1) = false := by simp; omega
                obtain ⟨x, hx⟩ : ∃ x, ls[k + 1]? = some x := ⟨_, List.getElem?_eq_getElem (by omega)⟩
                obtain ⟨Nx, hNx⟩ : ∃ N : ByteArray, N = ⟨x.name.toArray⟩ := ⟨_, rfl⟩
                obtain ⟨Fx, hFx⟩ : ∃ N : ByteArray, N = ⟨x.leaf.toArray⟩ := ⟨_, rfl⟩
                obtain ⟨Vx, hVx⟩ : ∃ N : ByteArray, N = ⟨x.value.toArray⟩ := ⟨_, rfl⟩
                have hnext : Hid (Wz.rangeAt g (o + (k + 1) * 4) [.int .i64 x.head, .string Nx, .string Fx, .string Vx]) := Lib.hid (by rw [hNx, hFx, hVx]; exact hKz.out.rangeAt (hrows'.out (k + 1) x hx) id)
                have hNxl : Hid (Nx.data.toList = x.name) := Lib.hid (by rw [hNx])
                have hx' := Lib.hid hx
                have l1 : IntKind.i64.wrap ((k : Int) + 1) = (k : Int) + 1 := IntWalk.i64_in _ (by omega)
                have l2 : (0 : Int) ≤ (k : Int) + 1 := by omega
                have l3 : (k : Int) + 1 < ls.length := by omega
                clear hNx hFx hVx hx hlast
                by_cases b1 : x.head = q.head
                · have f1 : (x.head != q.head) = false := by simp [b1]
                  have b1' := Lib.hid b1; clear b1
                  by_cases b2 : Nx.data.toList = N.data.toList
                  · have f2 := beq_list b2
                    have hf1 : lb = false := by rw [hlb'.out, hx'.out]; exact notdec_nil (lastC_yes b1'.out.symm (by rw [← hNxl.out, b2, hNl.out]))
                    have hf2 := Lib.hid hf1; clear hf1 b2
                    have r0 := hnext.out 0 _ rfl
                    have v0 := hBz.out.cell 0 _ rfl
                    simp only [Nat.add_zero] at r0
                    have r1 := hnext.out 1 _ rfl
                    have v1 := hBz.out.cell 1 _ rfl
                    go_quiet (fail)
                    have hB6 := Lib.hid (hBz.out.keep ((Keeps.refl (fun _ => False) _).drewN nq) id)
                    have hK6 := Lib.hid (hKz.out.drewN nq)
                    clear r0 v0 r1 v1
                    go_wp2_with fail
                    go_meet
                    case rel => exact ⟨by rw [hf2.out], hK6⟩
                  · have f2 := bne_list b2
                    have hf1 : lb = true := by rw [hlb'.out, hx'.out]; exact notdec_cons (b := [125]) (lastC_no (fun e => b2 (by rw [hNxl.out, hNl.out, e.2])))
                    have hf2 := Lib.hid hf1; clear hf1 b2
                    have r0 := hnext.out 0 _ rfl
                    have v0 := hBz.out.cell 0 _ rfl
                    simp only [Nat.add_zero] at r0
                    have r1 := hnext.out 1 _ rfl
                    have v1 := hBz.out.cell 1 _ rfl
                    go_quiet (fail)
                    have hB7 := Lib.hid (hBz.out.keep ((Keeps.refl (fun _ => False) _).drewN nq) id)
                    have hK7 := Lib.hid (hKz.out.drewN nq)
                    clear r0 v0 r1 v1
                    go_wp2_with fail
                    go_meet
                    case rel => exact ⟨by rw [hf2.out], hK7⟩
                · have f1 : (x.head != q.head) = true := by simp [b1]
                  have hf1 : lb = true := by rw [hlb'.out, hx'.out]; exact notdec_cons (b := [125]) (lastC_no (fun e => b1 e.1.symm))
                  have hf2 := Lib.hid hf1; clear hf1 b1
                  have r0 := hnext.out 0 _ rfl
                  have v0 := hBz.out.cell 0 _ rfl
                  simp only [Nat.add_zero] at r0
                  go_quiet (fail)
                  have hB8 := Lib.hid (hBz.out.keep ((Keeps.refl (fun _ => False) _).drewN nq) id)
                  have hK8 := Lib.hid (hKz.out.drewN nq)
                  clear r0 v0
                  go_wp2_with fail
                  go_meet
                  case rel => exact ⟨by rw [hf2.out], hK8⟩
            case rest =>
              obtain ⟨rfl, hKe⟩ := hcut
              clear hBz hKz hwn
              generalize wc = We at hKe ⊢
              cases lb with
              | false =>
                have hln : lastC q (ls[k + 1]?) = [] := by have := hlb'.out; simpa using this
                have hfin : Hid ((S2 ++ ⟨#[32, 32]⟩ ++ F ++ ⟨#[32]⟩ ++ V ++ ⟨#[59, 10]⟩).data.toList = textK ls (k + 1)) := Lib.hid (by rw [hstep.out]; unfold pieceC; rw [if_neg a0'.out, hln, ← hwl.out]; simp [hS2.out])
                clear hln hlb'
                go_wp2_with fail
                exact ⟨⟨k + 1, _, by omega, by go_num, rfl, hfin, hKe⟩, by simp [intOf]; omega⟩
              | true =>
                have hln : lastC q (ls[k + 1]?) = [125, 10] := by
                  have h : ¬ lastC q (ls[k + 1]?) = [] := by have := hlb'.out; simpa using this
                  unfold lastC at h ⊢
                  split
                  · split
                    · rename_i a b; simp only [a] at h; rw [if_pos b] at h; exact absurd rfl h
                    · rfl
                  · rfl
                have hfin : Hid ((S2 ++ ⟨#[32, 32]⟩ ++ F ++ ⟨#[32]⟩ ++ V ++ ⟨#[59, 10]⟩ ++ ⟨#[125, 10]⟩).data.toList = textK ls (k + 1)) := Lib.hid (by rw [hstep.out]; unfold pieceC; rw [if_neg a0'.out, hln, ← hwl.out]; simp [hS2.out])
                clear hln hlb'
                go_wp2_with fail
                exact ⟨⟨k + 1, _, by omega, by go_num, rfl, hfin, hKe⟩, by simp [intOf]; omega⟩
    · obtain rfl : k = ls.length := by omega
      have hTS : Hid (S = T) := Lib.hid (by rw [hT.out]; exact ba_of' hS.out)
      go_wp2_with fail
      go_ret
      exact ⟨by rw [← hTS.out]; rfl, k2'.out.trans hKr.out⟩
end Go.Proofs.Ytdjmhjgfjbcdkaa
/- Rows of texts held against each other; reads. -/
namespace Go.Proofs.Ytdjmhjgfjbcdkaa
open Go.RowKit

set_option maxRecDepth 100000 in
theorem rSame3_any (a b : Value) (xs ys : List (List UInt8)) (w : World) (ha : StrsAt w a xs) (hb : StrsAt w b ys) (hl1 : xs.length ≤ 9223372036854775807) (hl2 : ys.length ≤ 9223372036854775807) :
    Calls Try.prog 17 #[a, b] w fun e w' => e = .returned (.bool (xs == ys)) ∧ ∃ n, w' = w.drewN n := by
  obtain ⟨p, c, rfl, ha⟩ := ha
  obtain ⟨q, d, rfl, hb⟩ := hb
  by_cases hl : xs.length = ys.length
  · have hl' : ((xs.length : Int) != (ys.length : Int)) = false := by rw [hl]; simp
    have hl'' : (xs.length != ys.length) = false := by rw [hl]; simp
    have hlh := Lib.hid hl; clear hl
    have ha' := Lib.hid ha; have hb' := Lib.hid hb; clear ha hb
    go_enter Try.func17, Try.ntmps17
    go_wp2
    go_loopw [5] (fun i wr => ∃ (k m : Nat), k ≤ xs.length ∧ i = .int .i64 k ∧ wr = w.drewN m ∧ Hid (xs.take k = ys.take k)) (fun i _ => xs.length - (intOf i).toNat)
    case atStart => exact ⟨0, 0, by omega, rfl, rfl, Lib.hid (by simp)⟩
    case round =>
      obtain ⟨k, m, hk, rfl, rfl, heq⟩ := hrel
      by_cases hlt : k < xs.length
      · have hlt2 : k < ys.length := by have := hlh.out; omega
        obtain ⟨g, o, rfl, hr⟩ := ha'.out (by omega)
        obtain ⟨g2, o2, rfl, hr2⟩ := hb'.out (by omega)
        obtain ⟨X, hX⟩ : ∃ X : ByteArray, X = ⟨(xs[k]).toArray⟩ := ⟨_, rfl⟩
        obtain ⟨Y, hY⟩ : ∃ Y : ByteArray, Y = ⟨(ys[k]).toArray⟩ := ⟨_, rfl⟩
        have c1 : w.cell? ⟨g, o + k, none⟩ = some (.string X) := by rw [hX]; exact hr k _ (by simp [hlt, strv])
        have c2 : w.cell? ⟨g2, o2 + k, none⟩ = some (.string Y) := by rw [hY]; exact hr2 k _ (by simp [hlt2, strv])
        by_cases he : xs[k] = ys[k]
        · have hE : (X.toList == Y.toList) = true := by rw [hX, hY, ba_toList, ba_toList, he]; simp
          have hX' := Lib.hid hX; have hY' := Lib.hid hY; clear hX hY hr hr2
          have hn : Hid (xs.take (k + 1) = ys.take (k + 1)) := Lib.hid (by
            rw [List.take_succ_eq_append_getElem hlt, List.take_succ_eq_append_getElem hlt2, heq.out, he])
          clear heq he
          go_wp2
          go_quiet (fail)
          go_wp2
          go_roundw
          case rel => exact ⟨k + 1, _, by omega, by go_num, rfl, hn⟩
          case measure => simp [intOf]; omega
        · have hE : (X.toList == Y.toList) = false := by rw [hX, hY, ba_toList, ba_toList]; simpa using he
          have hn : Hid ((xs == ys) = false) := Lib.hid (by rw [beq_eq_false_iff_ne]; rintro rfl; exact he rfl)
          have hX' := Lib.hid hX; have hY' := Lib.hid hY; clear hX hY hr hr2 heq he
          go_wp2
          go_quiet (fail)
          go_wp2
          go_ret
          exact ⟨by rw [hn.out]; rfl, m + nq, by simp⟩
      · obtain rfl : k = xs.length := by omega
        have hn : Hid ((xs == ys) = true) := Lib.hid (by
          rw [beq_iff_eq]
          have h := heq.out
          rw [hlh.out] at h
          rw [← hlh.out, List.take_length, hlh.out, List.take_length] at h
          exact h)
        clear heq
        go_wp2
        go_ret
        exact ⟨by rw [hn.out]; rfl, _, rfl⟩
  · have hl' : ((xs.length : Int) != (ys.length : Int)) = true := by rw [bne_iff_ne]; omega
    have hl'' : (xs.length != ys.length) = true := by simpa using hl
    have hn : Hid ((xs == ys) = false) := Lib.hid (by rw [beq_eq_false_iff_ne]; rintro rfl; exact hl rfl)
    clear hl ha hb
    go_enter Try.func17, Try.ntmps17
    go_wp2
    go_ret
    exact ⟨by rw [hn.out]; rfl, 0, rfl⟩

end Go.Proofs.Ytdjmhjgfjbcdkaa
/- Set, Delete, Names of a right configuration: what both sides answer, said alike. -/
set_option linter.unusedVariables false
set_option linter.unusedSimpArgs false
namespace Go.Proofs.Ytdjmhjgfjbcdkaa
open Go.RowKit

def ResPost (r : List LineD × Nat) (w : World) (e : Ending) (w' : World) : Prop :=
  ∃ p c, e = .returned (.tuple #[.slice p r.1.length c, .int .i64 (r.2 : Int)]) ∧ RowsAt 4 lineVals w' (.slice p r.1.length c) r.1 ∧ Keeps (fun _ => False) w w'
def setR (x : LineD) (ls : List LineD) : List LineD × Nat := if lineB x = true then (if (setC x ls).length ≤ 64 then (setC x ls, 0) else ([], 5)) else ([], 1)
def delR (h : Int) (n l : List UInt8) (ls : List LineD) : List LineD × Nat := if (delC h n l ls).length = ls.length then ([], 6) else (delC h n l ls, 0)
theorem setR_right {x : LineD} {ls : List LineD} (hr : rightC ls = true) : rightC (setR x ls).1 = true := by
  unfold setR
  split
  · rename_i hx
    split
    · rename_i hl; exact right_setC hr hx hl
    · decide +kernel
  · decide +kernel
theorem delR_right {h : Int} {n l : List UInt8} {ls : List LineD} (hr : rightC ls = true) : rightC (delR h n l ls).1 = true := by
  unfold delR
  split
  · decide +kernel
  · exact right_del hr

theorem set_any (v : Value) (ls : List LineD) (h : Int) (N F V : ByteArray) (w : World) (hv : Hid (RowsAt 4 lineVals w v ls)) (hr : Hid (rightC ls = true)) (hn : N.size ≤ 8796093022000) (hvs : V.size ≤ 8796093022000) :
    Calls Try.prog 12 #[v, .agg #[.int .i64 h, .string N, .string F, .string V]] w (ResPost (setR ⟨h, N.data.toList, F.data.toList, V.data.toList⟩ ls) w) := by
  have hlen := right_len hr.out
  have hlt := Lib.hid (right_lt hr.out 9223372036854775807 (by omega))
  obtain ⟨x, hx⟩ : ∃ x : LineD, x = ⟨h, N.data.toList, F.data.toList, V.data.toList⟩ := ⟨_, rfl⟩
  unfold setR
  rw [← hx]
  cases hz : lineB x with
  | false =>
    rw [if_neg (by simp)]
    refine (set_no v ls h N F V w hv hlt (by omega) (by omega) hr (Lib.hid (hx ▸ hz)) hlen).mono ?_
    rintro e w2 ⟨rfl, k⟩
    exact ⟨none, 0, rfl, RowsAt.nil w2, k⟩
  | true =>
    rw [if_pos rfl]
    obtain ⟨z, hth⟩ : ∃ z, thereB x ls = z := ⟨_, rfl⟩
    by_cases hl : (setC x ls).length ≤ 64
    · rw [if_pos hl]
      have h64 : z = false → ls.length < 64 := fun e => by
        rw [setC_len, hth, e] at hl; simp at hl; omega
      refine (set_ok v ls h N F V z w hv hlt (by omega) (by omega) hr (Lib.hid (hx ▸ hz)) (Lib.hid (hx ▸ hth)) hlen h64).mono ?_
      rintro e w2 ⟨p, c, rfl, hO, k⟩
      rw [← hx] at hO ⊢
      exact ⟨p, c, rfl, hO.at lineVals_len, k⟩
    · rw [if_neg hl]
      have hf : thereB x ls = false := by
        cases ht : thereB x ls with
        | false => rfl
        | true => rw [setC_len, if_pos ht] at hl; omega
      have h64 : ls.length = 64 := by rw [setC_len, hf] at hl; simp at hl; omega
      refine (set_full v ls h N F V w hv hlt (by omega) (by omega) hr (Lib.hid (hx ▸ hz)) (Lib.hid (hx ▸ hf)) (Lib.hid h64)).mono ?_
      rintro e w2 ⟨rfl, k⟩
      exact ⟨none, 0, rfl, RowsAt.nil w2, k⟩

theorem rSet_any (v : Value) (ls : List LineD) (h : Int) (N F V : ByteArray) (w : World) (hv : Hid (RowsAt 4 lineVals w v ls)) (hr : Hid (rightC ls = true)) (hn : N.size ≤ 8796093022000) (hvs : V.size ≤ 8796093022000) :
    Calls Try.prog 14 #[v, .agg #[.int .i64 h, .string N, .string F, .string V]] w (ResPost (setR ⟨h, N.data.toList, F.data.toList, V.data.toList⟩ ls) w) := by
  have hlen := right_len hr.out
  have hlt := Lib.hid (right_lt hr.out 8796093022000 (by omega))
  obtain ⟨x, hx⟩ : ∃ x : LineD, x = ⟨h, N.data.toList, F.data.toList, V.data.toList⟩ := ⟨_, rfl⟩
  unfold setR
  rw [← hx]
  cases hz : lineB x with
  | false =>
    rw [if_neg (by simp)]
    refine (rSet_no v ls h N F V w hv hlt hn hvs hlen hr (Lib.hid (hx ▸ hz))).mono ?_
    rintro e w2 ⟨rfl, k⟩
    exact ⟨none, 0, rfl, RowsAt.nil w2, k⟩
  | true =>
    rw [if_pos rfl]
    refine (rSet_c v ls h N F V w hv hlt hn hvs hlen hr (Lib.hid (hx ▸ hz))).mono ?_
    rintro e w2 ⟨h1, h2, k⟩
    rw [← hx] at h1 h2
    by_cases hl : (setC x ls).length ≤ 64
    · rw [if_pos hl]
      obtain ⟨p, c, rfl, hO⟩ := h1 hl
      exact ⟨p, c, rfl, hO.at lineVals_len, k⟩
    · rw [if_neg hl]
      obtain rfl := h2 (by omega)
      exact ⟨none, 0, rfl, RowsAt.nil w2, k⟩

theorem del_any (v : Value) (ls : List LineD) (h : Int) (N L : ByteArray) (w : World) (hv : Hid (RowsAt 4 lineVals w v ls)) (hr : Hid (rightC ls = true)) :
    Calls Try.prog 9 #[v, .int .i64 h, .string N, .string L] w (ResPost (delR h N.data.toList L.data.toList ls) w) := by
  refine (del_c v ls h N L w hv (Lib.hid (right_lt hr.out 9223372036854775807 (by omega))) (right_len hr.out) hr).mono ?_
  rintro e w2 ⟨h1, h2, k⟩
  unfold delR
  split
  · rename_i he
    obtain rfl := h1 he
    exact ⟨none, 0, rfl, RowsAt.nil w2, k⟩
  · rename_i he
    obtain ⟨p, c, rfl, hO⟩ := h2 he
    exact ⟨p, c, rfl, hO.at lineVals_len, k⟩
theorem rDel_any (v : Value) (ls : List LineD) (h : Int) (N L : ByteArray) (w : World) (hv : Hid (RowsAt 4 lineVals w v ls)) (hr : Hid (rightC ls = true)) :
    Calls Try.prog 10 #[v, .int .i64 h, .string N, .string L] w (ResPost (delR h N.data.toList L.data.toList ls) w) := by
  refine (rDel_c v ls h N L w hv (Lib.hid (right_lt hr.out 8796093022000 (by omega))) (right_len hr.out) hr).mono ?_
  rintro e w2 ⟨h1, h2, k⟩
  unfold delR
  split
  · rename_i he
    obtain rfl := h1 he
    exact ⟨none, 0, rfl, RowsAt.nil w2, k⟩
  · rename_i he
    obtain ⟨p, c, rfl, hO⟩ := h2 he
    exact ⟨p, c, rfl, hO.at lineVals_len, k⟩

def namesA (h : Int) (ls : List LineD) : List (List UInt8) := if h = 0 then [] else namesFrom h none ls
theorem namesA_len (h : Int) (ls : List LineD) : (namesA h ls).length ≤ ls.length := by
  unfold namesA
  split
  · simp
  · exact names_len_le h ls none
def NamesP (xs : List (List UInt8)) (w : World) (e : Ending) (w' : World) : Prop :=
  ∃ p c, e = .returned (.slice p xs.length c) ∧ StrsAt w' (.slice p xs.length c) xs ∧ Keeps (fun _ => False) w w'
theorem rows_strs {w : World} {v : Value} {xs : List (List UInt8)} (h : RowsAt 1 nv1 w v xs) : StrsAt w v xs := by
  obtain ⟨p, c, rfl, -, -, hr⟩ := h
  refine ⟨p, c, rfl, fun h0 => ?_⟩
  obtain ⟨g, o, rfl, hr2⟩ := hr h0
  refine ⟨g, o, rfl, fun j u hu => ?_⟩
  rw [List.getElem?_map] at hu
  cases hx : xs[j]? with
  | none => rw [hx] at hu; cases hu
  | some x =>
    rw [hx] at hu
    injection hu with hu
    have := hr2 j x hx 0 u (by rw [← hu]; rfl)
    rw [Nat.mul_one, Nat.add_zero] at this
    exact this
theorem nv1_len (x : List UInt8) : (nv1 x).length = 1 := rfl

set_option maxRecDepth 100000 in
set_option maxHeartbeats 2000000 in
theorem names_all (v : Value) (ls : List LineD) (h : Int) (w : World) (hv : Hid (RowsAt 4 lineVals w v ls)) (hr : Hid (rightC ls = true)) :
    Calls Try.prog 18 #[v, .int .i64 h] w (NamesP (namesA h ls) w) := by
  by_cases h0 : h = 0
  · subst h0
    have e : namesA 0 ls = [] := rfl
    rw [e]
    obtain ⟨p, c, rfl⟩ := hv.out.slice
    go_enter Try.func18, Try.ntmps18
    go_wp2_with fail
    go_ret
    exact ⟨none, 0, rfl, ⟨none, 0, rfl, fun h => absurd h (by simp)⟩, Keeps.refl _ _⟩
  · have e : namesA h ls = namesFrom h none ls := if_neg h0
    rw [e]
    refine (names_any v ls h w hv (right_len hr.out) (Lib.hid (right_lt hr.out 9223372036854775807 (by omega))) hr h0).mono ?_
    rintro e w2 ⟨p, c, rfl, hO, k⟩
    exact ⟨p, c, rfl, rows_strs (hO.at nv1_len), k⟩
set_option maxRecDepth 100000 in
set_option maxHeartbeats 2000000 in
theorem rNames_all (v : Value) (ls : List LineD) (h : Int) (w : World) (hv : Hid (RowsAt 4 lineVals w v ls)) (hr : Hid (rightC ls = true)) :
    Calls Try.prog 19 #[v, .int .i64 h] w (NamesP (namesA h ls) w) := by
  by_cases h0 : h = 0
  · subst h0
    have e : namesA 0 ls = [] := rfl
    rw [e]
    obtain ⟨p, c, rfl⟩ := hv.out.slice
    have hLn := Lib.hid hv.out.lines
    have hlen := right_len hr.out
    have hlt := Lib.hid (right_lt hr.out 8796093022000 (by omega))
    go_enter Try.func19, Try.ntmps19
    go_wp2_with fail
    refine (rRight_c _ ls true _ hLn (by omega) hlt hr).mono ?_
    rintro e w2 ⟨rfl, k2⟩
    have k2' := Lib.hid k2; clear k2
    go_wp2_with fail
    go_ret
    exact ⟨none, 0, rfl, ⟨none, 0, rfl, fun h => absurd h (by simp)⟩, k2'.out⟩
  · have e : namesA h ls = nR h ls ls.length := (if_neg h0).trans (names_same h (right_rises hr.out)).symm
    rw [e]
    refine (rNames_c v ls h w hv hr h0).mono ?_
    rintro e w2 ⟨p, c, rfl, hO, k⟩
    exact ⟨p, c, rfl, rows_strs (hO.at nv1_len), k⟩
end Go.Proofs.Ytdjmhjgfjbcdkaa
/- The law's digits, walked (out of ZRN). -/
namespace Go.Proofs.Ytdjmhjgfjbcdkaa
open Go.RowKit

/-- what stands behind some rounds of Digits -/
def DigRel (N m : Nat) (S : ByteArray) : Prop := (S.data.toList = [] ∧ m = N) ∨ (S.data.toList ≠ [] ∧ ((m = 0 ∧ S.data.toList = digs N) ∨ (0 < m ∧ digs N = digs m ++ S.data.toList)))
theorem DigRel.next {N m : Nat} {S : ByteArray} (h : DigRel N m S) (hgo : 0 < m ∨ S.data.toList = []) : DigRel N (m / 10) (⟨#[UInt8.ofNat (48 + m % 10)]⟩ ++ S) := by
  have e : ((⟨#[UInt8.ofNat (48 + m % 10)]⟩ : ByteArray) ++ S).data.toList = UInt8.ofNat (48 + m % 10) :: S.data.toList := by simp
  right
  rw [e]
  refine ⟨by simp, ?_⟩
  rcases h with ⟨h1, rfl⟩ | ⟨h1, h2⟩
  · rw [h1]
    by_cases hm : m < 10
    · left; exact ⟨by omega, by rw [digs_lt hm, Nat.mod_eq_of_lt hm]⟩
    · right; exact ⟨by omega, digs_ge hm⟩
  · rcases h2 with ⟨h2, _⟩ | ⟨h2, h3⟩
    · rcases hgo with h | h
      · omega
      · exact (h1 h).elim
    · by_cases hm : m < 10
      · left; refine ⟨by omega, ?_⟩
        rw [h3, digs_lt hm, Nat.mod_eq_of_lt hm]; rfl
      · right; refine ⟨by omega, ?_⟩
        rw [h3, digs_ge hm]; simp

theorem DigRel.size {N m : Nat} {S : ByteArray} (h : DigRel N m S) (hN : N ≤ 9223372036854775807) : S.size ≤ 19 := by
  have hl := digs_len 19 N (by omega) (by omega)
  have hs : S.data.toList.length = S.size := by simp
  rcases h with ⟨h1, _⟩ | ⟨_, ⟨_, h2⟩ | ⟨_, h2⟩⟩
  · rw [h1] at hs; simp at hs; omega
  · rw [h2] at hs; omega
  · rw [h2, List.length_append] at hl; omega
set_option maxRecDepth 100000 in
set_option maxHeartbeats 1000000 in
theorem l5digits_D (N : Nat) (D : ByteArray) (w : World) (hN : N ≤ 9223372036854775807) (hD : Hid (D = ⟨(digs N).toArray⟩)) :
    Calls Try.prog 34 #[.int .i64 N] w (NewRes (.string D) w) := by
  go_enter Try.func34, Try.ntmps34
  go_wp2
  go_loopw [0, 3] (fun nv sv wr => ∃ (m : Nat) (S : ByteArray), m ≤ N ∧ nv = .int .i64 m ∧ sv = .string S ∧ Hid (DigRel N m S) ∧ Hid (Keeps (fun _ => False) w wr)) (fun nv sv _ => (intOf nv).toNat + match sv with | .string S => if S.data.toList = [] then 1 else 0 | _ => 0)
  case atStart => exact ⟨N, _, by omega, rfl, rfl, Lib.hid (.inl ⟨rfl, rfl⟩), Lib.hid (Keeps.refl _ _)⟩
  case round =>
    obtain ⟨m, S, hm, rfl, rfl, hrel, hk⟩ := hrel
    have hSs : S.size ≤ 19 := hrel.out.size hN
    by_cases hgo : 0 < m ∨ S.data.toList = []
    · have hnext := Lib.hid (hrel.out.next hgo)
      have hmod : m % 10 < 10 := Nat.mod_lt _ (by omega)
      have hcv := conv_one wr (48 + (m : Int) % 10) (UInt8.ofNat (48 + m % 10)) (by rw [dig_toNat hmod]; omega)
      have hdec : (m / 10) + 0 < m + (if S.data.toList = [] then 1 else 0) := by
        rcases hgo with h | h
        · omega
        · rw [if_pos h]; omega
      have hne : ((⟨#[UInt8.ofNat (48 + m % 10)]⟩ : ByteArray) ++ S).data.toList ≠ [] := by simp
      have hdec' := Lib.hid hdec; have hne' := Lib.hid hne; clear hdec hne
      obtain ⟨C, hC⟩ : ∃ C : ByteArray, C = ⟨#[UInt8.ofNat (48 + m % 10)]⟩ := ⟨_, rfl⟩
      rw [← hC] at hcv hnext hne'
      have hCs : C.size ≤ 1 := by rw [hC]; exact Nat.le_refl _
      have hC' := Lib.hid hC; clear hC
      by_cases h0 : 0 < m
      · clear hgo
        go_wp2
        refine ⟨⟨m / 10, C ++ S, by omega, by first | rfl | go_num, rfl, hnext, Lib.hid (hk.out.alloc _)⟩, ?_⟩
        have h1 := hdec'.out
        simp only [intOf]
        rw [if_neg hne'.out]
        omega
      · obtain rfl : m = 0 := by omega
        have hSe : S.toList = [] := by rcases hgo with h | h; omega; rw [Lib.toList_data]; exact h
        have hS1 : S.toList.isEmpty = true := by rw [hSe]; rfl
        have hS0 : S.size = 0 := by
          have : S.data.toList.length = 0 := by rw [← Lib.toList_data, hSe]; rfl
          simpa using this
        have hS0' : S.size ≤ 0 := by omega
        have hcv0 : (convert 50 9 (.slice (some ⟨wr.heap.size, 0, none⟩) 1 1)).run Try.prog (wr.alloc (.cells #[.int .u8 48] 5)) = .ok (.string C) (wr.alloc (.cells #[.int .u8 48] 5)) := by simpa using hcv
        have hSe' := Lib.hid hSe; clear hSe hgo hcv hS0
        go_wp2
        have hsz : (C ++ S).size ≤ 100 + (N - 0 / 10) := by rw [ByteArray.size_append]; omega
        refine ⟨⟨0 / 10, C ++ S, by omega, by first | rfl | go_num, rfl, hnext, Lib.hid (hk.out.alloc _)⟩, ?_⟩
        have h1 := hdec'.out
        simp only [intOf]
        rw [if_neg hne'.out]
        omega
    · have hm0 : m = 0 := by omega
      subst hm0
      have hSne : S.toList ≠ [] := fun h => hgo (.inr (by rw [← Lib.toList_data]; exact h))
      have hS1 : S.toList.isEmpty = false := by cases hl : S.toList with | nil => exact (hSne hl).elim | cons => rfl
      have hend : Hid (S = D) := Lib.hid (by
        rw [hD.out]
        have : S.data.toList = digs N := by
          rcases hrel.out with ⟨h, _⟩ | ⟨_, ⟨_, h⟩ | ⟨h, _⟩⟩
          · exact (hgo (.inr h)).elim
          · exact h
          · omega
        rw [← this])
      clear hgo hSne hrel
      go_wp2
      go_ret
      exact ⟨by rw [← hend.out]; rfl, hk.out⟩
end Go.Proofs.Ytdjmhjgfjbcdkaa
/- writes, walked. -/
set_option linter.unusedVariables false
set_option linter.unusedSimpArgs false
namespace Go.Proofs.Ytdjmhjgfjbcdkaa
open Go.RowKit

def oneL : LineD := ⟨1, [48, 46, 48, 46, 48, 46, 48], [116, 121, 112, 101], [115, 116, 117, 98]⟩
set_option maxRecDepth 100000
theorem one_line : lineB oneL = true := by decide +kernel
theorem one_right : rightC [oneL] = true := by decide +kernel
theorem nil_right : rightC [] = true := by decide +kernel
theorem one_set : setC oneL [] = [oneL] := rfl
theorem one_there : thereB ⟨1, [48, 46, 48, 46, 48, 46, 48], [99, 111, 115, 116], []⟩ [oneL] = false := by decide +kernel
theorem one_default : ((findD 1 [99, 111, 115, 116]).map (·.df)) = some [49] := by decide +kernel
theorem one_T1 : (⟨#[97, 114, 101, 97, 32, 48, 46, 48, 46, 48, 46, 48, 32, 123, 10]⟩ : ByteArray) = ⟨#[97, 114, 101, 97]⟩ ++ ⟨#[32]⟩ ++ ⟨#[48, 46, 48, 46, 48, 46, 48]⟩ ++ ⟨#[32, 123, 10]⟩ := by decide +kernel
theorem one_T2 : (⟨#[116, 121, 112, 101, 32, 115, 116, 117, 98, 59, 10]⟩ : ByteArray) = ⟨#[116, 121, 112, 101]⟩ ++ ⟨#[32]⟩ ++ ⟨#[115, 116, 117, 98]⟩ ++ ⟨#[59, 10]⟩ := by decide +kernel
theorem one_T3 : (⟨#[32, 32, 116, 121, 112, 101, 32, 115, 116, 117, 98, 59, 10]⟩ : ByteArray) = ⟨#[32, 32]⟩ ++ ⟨#[116, 121, 112, 101, 32, 115, 116, 117, 98, 59, 10]⟩ := by decide +kernel
set_option maxHeartbeats 4000000 in
theorem writes_any (w : World) : Calls Try.prog 20 #[] w (NewRes (.bool true) w) := by
  go_enter Try.func20, Try.ntmps20
  go_wp2_with fail
  have hs : Calls Try.prog 12 #[.slice none 0 0, .agg #[.int .i64 1, .string ⟨#[48, 46, 48, 46, 48, 46, 48]⟩, .string ⟨#[116, 121, 112, 101]⟩, .string ⟨#[115, 116, 117, 98]⟩]] w (SetPost [oneL] w) := set_ok _ [] 1 ⟨#[48, 46, 48, 46, 48, 46, 48]⟩ ⟨#[116, 121, 112, 101]⟩ ⟨#[115, 116, 117, 98]⟩ false _ (Lib.hid (RowsAt.nil _)) (Lib.hid (fun l hl => by cases hl)) (by decide) (by decide) (Lib.hid nil_right) (Lib.hid one_line) (Lib.hid rfl) (by simp) (fun _ => by simp)
  refine hs.mono ?_
  rintro e w2 ⟨p, c, rfl, hO, k2⟩
  have hR : RowsAt 4 lineVals w2 (.slice p 1 c) [oneL] := hO.at lineVals_len
  obtain ⟨g, o, rfl, hrows⟩ := hR.open (by simp)
  have hrow : Hid (w2.rangeAt g o [.int .i64 1, .string ⟨#[48, 46, 48, 46, 48, 46, 48]⟩, .string ⟨#[116, 121, 112, 101]⟩, .string ⟨#[115, 116, 117, 98]⟩]) := Lib.hid (by
    have := hrows 0 oneL rfl
    rw [Nat.zero_mul, Nat.add_zero] at this
    exact this)
  have hR' := Lib.hid hR; have k2' := Lib.hid k2
  clear hO hR hrows k2
  have hlt : Hid (LinesLt [oneL] 9223372036854775807) := Lib.hid (fun l hl => by
    simp at hl; subst hl; decide)
  clear hs
  have ht : Calls Try.prog 21 #[.slice (some ⟨g, o, none⟩) 1 c] w2 (NewRes (.string ⟨#[97, 114, 101, 97, 32, 48, 46, 48, 46, 48, 46, 48, 32, 123, 10, 32, 32, 116, 121, 112, 101, 32, 115, 116, 117, 98, 59, 10, 125, 10]⟩) w2) :=
    text_one g o c _ _ _ _ _ _ _ w2 hrow (Lib.hid one_right) (by decide) (by decide) (by decide) (Lib.hid one_T1) (Lib.hid one_T2) (Lib.hid one_T3) (by decide) (by decide) (by decide) (Lib.hid rfl)
  have ht' := Lib.hid ht
  clear ht
  go_wp2_with fail
  refine ht'.out.mono ?_
  rintro e w3 ⟨rfl, k3⟩
  have hR3 := Lib.hid (hR'.out.keep k3)
  have k3' := Lib.hid (k2'.out.trans k3)
  clear k3 ht' hrow hR' k2'
  go_wp2_with fail
  refine (right_c _ [oneL] true _ (Lib.hid hR3.out.lines) (by decide) hlt (Lib.hid one_right)).mono ?_
  rintro e w4 ⟨rfl, k4⟩
  have hR4 := Lib.hid (hR3.out.keep k4)
  have k4' := Lib.hid (k3'.out.trans k4)
  clear k4 hR3 k3'
  obtain ⟨r, hr, hdf⟩ := Option.map_eq_some_iff.1 one_default
  have hr' := Lib.hid hr
  have hdf' : Hid ((⟨#[49]⟩ : ByteArray) = ⟨r.df.toArray⟩) := Lib.hid (by rw [hdf])
  clear hr hdf
  go_wp2_with fail
  refine (value_default _ [oneL] r 1 ⟨#[48, 46, 48, 46, 48, 46, 48]⟩ ⟨#[99, 111, 115, 116]⟩ ⟨#[49]⟩ _ hR4 (by decide) hlt (Lib.hid one_right) (Lib.hid one_there) hr' hdf').mono ?_
  rintro e w5 ⟨rfl, k5⟩
  have k5' := Lib.hid (k4'.out.trans k5)
  clear k5
  go_wp2_with fail
  go_ret
  exact ⟨rfl, k5'.out⟩
end Go.Proofs.Ytdjmhjgfjbcdkaa
