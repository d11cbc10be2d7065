/- The document's Text of any right configuration, walked (gen_cgs.py). -/
import Derived.Test.YtdjmhjgfjbcdkaaU12
import Derived.Deep.DeepCutAuto
import Derived.BigQuiet
import Derived.Test.YtdjmhjgfjbcdkaaU06
set_option linter.unusedVariables false
set_option linter.unusedSimpArgs false
set_option linter.unusedVariables false
set_option linter.unusedSimpArgs false
namespace Go.Proofs.Ytdjmhjgfjbcdkaa
open Go.RowKit

theorem line_head {l : LineD} (h : lineB l = true) : l.head = 0 ∨ l.head = 1 ∨ l.head = 2 := by
  unfold lineB at h
  cases hf : findD l.head l.leaf with
  | none => rw [hf] at h; cases h
  | some r =>
    have hm : r ∈ tableD := List.mem_of_find?_eq_some hf
    have hp := List.find?_some hf
    rw [decide_eq_true_eq] at hp
    have hall : ∀ q ∈ tableD, q.head = 0 ∨ q.head = 1 ∨ q.head = 2 := by decide
    rw [← hp.1]; exact hall r hm

theorem firstC_yes {p q : LineD} (h1 : p.head = q.head) (h2 : p.name = q.name) : firstC (some p) q = [] := by unfold firstC sameC; simp [h1, h2]
theorem firstC_no {p q : LineD} (h : ¬ (p.head = q.head ∧ p.name = q.name)) : firstC (some p) q = headC q.head ++ [32] ++ q.name ++ [32, 123, 10] := by
  unfold firstC sameC; simp only; rw [if_neg (by simpa using h)]
theorem lastC_yes {p q : LineD} (h1 : p.head = q.head) (h2 : p.name = q.name) : lastC p (some q) = [] := by unfold lastC sameC; simp [h1, h2]
theorem lastC_no {p q : LineD} (h : ¬ (p.head = q.head ∧ p.name = q.name)) : lastC p (some q) = [125, 10] := by
  unfold lastC sameC; simp only; rw [if_neg (by simpa using h)]
theorem notdec_nil {a : List UInt8} (h : a = []) : (!decide (a = [])) = false := by subst h; rfl
theorem notdec_cons {a b : List UInt8} {x : UInt8} (h : a = b ++ [x]) : (!decide (a = [])) = true := by subst h; simp
theorem list_ends (a b : List UInt8) : a ++ [32] ++ b ++ [32, 123, 10] = (a ++ [32] ++ b ++ [32, 123]) ++ [10] := by simp
theorem ba_of' {N : ByteArray} {l : List UInt8} (h : N.data.toList = l) : N = ⟨l.toArray⟩ := by subst h; rfl
set_option maxRecDepth 100000 in
set_option maxHeartbeats 32000000 in
theorem rText_c (v : Value) (ls : List LineD) (T : ByteArray) (w : World) (hv : Hid (RowsAt 4 lineVals w v ls)) (hr : Hid (rightC ls = true)) (hT : Hid (T = ⟨(textK ls ls.length).toArray⟩)) :
    Calls Try.prog 22 #[v] w (NewRes (.string T) w) := by
  have hlen := right_len hr.out
  have hlt := Lib.hid (right_lt hr.out 8796093022000 (by omega))
  have hsm := Lib.hid (fun q hq => line_small (right_line hr.out q hq))
  have hhd := Lib.hid (fun q hq => line_head (right_line hr.out q hq))
  have htl := Lib.hid (textK_len hsm.out)
  obtain ⟨p, c, rfl⟩ := hv.out.slice
  have hLn := Lib.hid hv.out.lines
  go_enter Try.func22, Try.ntmps22
  go_wp2_with fail
  refine (rRight_c _ ls true _ hLn (by omega) hlt hr).mono ?_
  rintro e w2 ⟨rfl, k2⟩
  have k2' := Lib.hid k2
  have hv2 := Lib.hid (hv.out.keep k2)
  clear k2 hLn hlt hr hv
  go_wp2_with fail
  go_loopw [4, 3] (fun iv ov wr => ∃ (k : Nat) (S : ByteArray), k ≤ ls.length ∧ iv = .int .i64 k ∧ ov = .string S ∧ Hid (S.data.toList = textK ls k) ∧ Hid (Keeps (fun _ => False) w2 wr)) (fun iv _ _ => ls.length - (intOf iv).toNat)
  case atStart => exact ⟨0, ⟨#[]⟩, by omega, rfl, rfl, Lib.hid rfl, Lib.hid (Keeps.refl _ _)⟩
  case round =>
    obtain ⟨k, S, hk, rfl, rfl, hS, hKr⟩ := hrel
    have htk := htl.out k
    rw [← hS.out] at htk
    have sS : S.size ≤ 30000 := by
      have e : S.data.toList.length = S.size := by simp
      omega
    clear htk
    by_cases hlk : k < ls.length
    · obtain ⟨g, o, rfl, hrows⟩ := hv2.out.open (by omega)
      obtain ⟨q, hq⟩ : ∃ q, ls[k]? = some q := ⟨_, List.getElem?_eq_getElem hlk⟩
      obtain ⟨z1, z2, z3⟩ := hsm.out q (List.mem_of_getElem? hq)
      have hh := Lib.hid (hhd.out q (List.mem_of_getElem? hq))
      obtain ⟨N, hN⟩ : ∃ N : ByteArray, N = ⟨q.name.toArray⟩ := ⟨_, rfl⟩
      obtain ⟨F, hF⟩ : ∃ N : ByteArray, N = ⟨q.leaf.toArray⟩ := ⟨_, rfl⟩
      obtain ⟨V, hV⟩ : ∃ N : ByteArray, N = ⟨q.value.toArray⟩ := ⟨_, rfl⟩
      have sN : N.size ≤ 100 := by rw [hN]; exact z1
      have sF : F.size ≤ 100 := by rw [hF]; exact z2
      have sV : V.size ≤ 100 := by rw [hV]; exact z3
      have hrw : Hid (wr.rangeAt g (o + k * 4) [.int .i64 q.head, .string N, .string F, .string V]) := Lib.hid (by rw [hN, hF, hV]; exact hKr.out.rangeAt (hrows k q hq) id)
      have hNl : Hid (N.data.toList = q.name) := Lib.hid (by rw [hN])
      have hwl : Hid (F.data.toList ++ [32] ++ V.data.toList ++ [59, 10] = writtenC q) := Lib.hid (by rw [hF, hV]; rfl)
      have hstep := Lib.hid (textK_step hq)
      rw [← hS.out] at hstep
      have hrows' := Lib.hid hrows
      have hq' := Lib.hid hq
      have hBx : Hid (BlkAt (wr.alloc (.cells #[.int .i64 q.head, .string N, .string F, .string V] 28)) wr.heap.size 28 [.int .i64 q.head, .string N, .string F, .string V]) := Lib.hid (BlkAt.new _ _ _)
      have hKx : Hid (Keeps (fun _ => False) w2 (wr.alloc (.cells #[.int .i64 q.head, .string N, .string F, .string V] 28))) := Lib.hid (hKr.out.alloc _)
      have m1 : (0 : Int) ≤ (k : Int) := by omega
      have m2 : (k : Int) < (ls.length : Int) := by omega
      clear hrows hN hF hV hq z1 z2 z3 hS
      have c0 := hBx.out.cell 0 _ rfl
      have c2 := hBx.out.cell 2 _ rfl
      have c3 := hBx.out.cell 3 _ rfl
      go_upto_region 8 with (first | ((with_reducible refine at_slot 19 ?_); refine wpList_load_mid rfl 28 (.tmp 18) rfl g (o + k * 4) rfl [.int .i64 q.head, .string N, .string F, .string V] _ hrw.out Try.underlying28 rfl line5InfoG ?_) | ((with_reducible refine at_store 5 ?_); refine wpList_store_new rfl 28 (.tmp 5) (.tmp 19) rfl _ #[.int .i64 q.head, .string N, .string F, .string V] rfl rfl line5InfoG rfl (line_one _ _ _ _) ?_))
      generalize hgx : wr.heap.size = gx at hBx c0 c2 c3 ⊢
      generalize hWx : wr.alloc (.cells #[.int .i64 q.head, .string N, .string F, .string V] 28) = Wx at hBx hKx c0 c2 c3 ⊢
      clear hgx hWx hrw hKr
      by_cases a0 : q.head = 0
      · have e0 : (q.head == 0) = true := by simp [a0]
        have a0' := Lib.hid a0; clear a0
        have hfin : Hid ((S ++ F ++ ⟨#[32]⟩ ++ V ++ ⟨#[59, 10]⟩).data.toList = textK ls (k + 1)) := Lib.hid (by rw [hstep.out]; unfold pieceC; rw [if_pos a0'.out, ← hwl.out]; simp)
        go_wp2_with fail
        exact ⟨⟨k + 1, _, by omega, by go_num, rfl, hfin, hKx⟩, by simp [intOf]; omega⟩
      · have e0 : (q.head == 0) = false := by simpa using a0
        have a0' := Lib.hid a0; clear a0 c2 c3
        obtain ⟨fb, hfb⟩ : ∃ fb : Bool, fb = !(decide (firstC (prevOf ls k) q = [])) := ⟨_, rfl⟩
        have hfb' := Lib.hid hfb; clear hfb
        go_upto_region 10 with fail
        go_cut [55] (fun tv wx => tv = .bool fb ∧ Hid (BlkAt wx gx 28 [.int .i64 q.head, .string N, .string F, .string V]) ∧ Hid (Keeps (fun _ => False) w2 wx))
        case first =>
          by_cases k0 : k = 0
          · have e1 : ((k : Int) == 0) = true := by simp [k0]
            have hf1 : fb = true := by rw [hfb'.out, k0]; exact notdec_cons ((show firstC (prevOf ls 0) q = headC q.head ++ [32] ++ q.name ++ [32, 123, 10] from rfl).trans (list_ends _ _))
            have hf2 := Lib.hid hf1; clear hf1 k0 c0
            go_quiet (fail)
            have hB1 := Lib.hid (hBx.out.keep ((Keeps.refl (fun _ => False) _).drewN nq) id)
            have hK1 := Lib.hid (hKx.out.drewN nq)
            go_wp2_with fail
            go_meet
            case rel => exact ⟨by rw [hf2.out], hB1, hK1⟩
          · have e1 : ((k : Int) == 0) = false := by simp; omega
            obtain ⟨j, hj⟩ : ∃ j, k = j + 1 := ⟨k - 1, by omega⟩
            obtain ⟨b, hbq⟩ : ∃ b, ls[j]? = some b := ⟨_, List.getElem?_eq_getElem (by omega)⟩
            have hpv : prevOf ls k = some b := by rw [hj]; exact hbq
            obtain ⟨Nb, hNb⟩ : ∃ N : ByteArray, N = ⟨b.name.toArray⟩ := ⟨_, rfl⟩
            obtain ⟨Fb, hFb⟩ : ∃ N : ByteArray, N = ⟨b.leaf.toArray⟩ := ⟨_, rfl⟩
            obtain ⟨Vb, hVb⟩ : ∃ N : ByteArray, N = ⟨b.value.toArray⟩ := ⟨_, rfl⟩
            have hprev : Hid (Wx.rangeAt g (o + j * 4) [.int .i64 b.head, .string Nb, .string Fb, .string Vb]) := Lib.hid (by rw [hNb, hFb, hVb]; exact hKx.out.rangeAt (hrows'.out j b hbq) id)
            have hNbl : Hid (Nb.data.toList = b.name) := Lib.hid (by rw [hNb])
            have l1 : IntKind.i64.wrap ((k : Int) - 1) = (j : Int) := by rw [IntWalk.i64_in _ (by omega)]; omega
            have l3 : (0 : Int) ≤ (j : Int) := by omega
            have l4 : (j : Int) < ls.length := by omega
            have hpv' := Lib.hid hpv
            clear hNb hFb hVb hbq hj k0 hpv
            by_cases a1 : b.head = q.head
            · have e2 : (b.head != q.head) = false := by simp [a1]
              have a1' := Lib.hid a1; clear a1 c0
              by_cases a2 : Nb.data.toList = N.data.toList
              · have e3 := beq_list a2
                have hf1 : fb = false := by rw [hfb'.out, hpv'.out]; exact notdec_nil (firstC_yes a1'.out (by rw [← hNbl.out, a2, hNl.out]))
                have hf2 := Lib.hid hf1; clear hf1 a2
                have r0 := hprev.out 0 _ rfl
                have v0 := hBx.out.cell 0 _ rfl
                simp only [Nat.add_zero] at r0
                have r1 := hprev.out 1 _ rfl
                have v1 := hBx.out.cell 1 _ rfl
                go_quiet (fail)
                have hB2 := Lib.hid (hBx.out.keep ((Keeps.refl (fun _ => False) _).drewN nq) id)
                have hK2 := Lib.hid (hKx.out.drewN nq)
                clear r0 v0 r1 v1
                go_wp2_with fail
                go_meet
                case rel => exact ⟨by rw [hf2.out], hB2, hK2⟩
              · have e3 := bne_list a2
                have hf1 : fb = true := by rw [hfb'.out, hpv'.out]; exact notdec_cons ((firstC_no (fun e => a2 (by rw [hNbl.out, hNl.out, e.2]))).trans (list_ends _ _))
                have hf2 := Lib.hid hf1; clear hf1 a2
                have r0 := hprev.out 0 _ rfl
                have v0 := hBx.out.cell 0 _ rfl
                simp only [Nat.add_zero] at r0
                have r1 := hprev.out 1 _ rfl
                have v1 := hBx.out.cell 1 _ rfl
                go_quiet (fail)
                have hB3 := Lib.hid (hBx.out.keep ((Keeps.refl (fun _ => False) _).drewN nq) id)
                have hK3 := Lib.hid (hKx.out.drewN nq)
                clear r0 v0 r1 v1
                go_wp2_with fail
                go_meet
                case rel => exact ⟨by rw [hf2.out], hB3, hK3⟩
            · have e2 : (b.head != q.head) = true := by simp [a1]
              have hf1 : fb = true := by rw [hfb'.out, hpv'.out]; exact notdec_cons ((firstC_no (fun e => a1 e.1)).trans (list_ends _ _))
              have hf2 := Lib.hid hf1; clear hf1 a1 c0
              have r0 := hprev.out 0 _ rfl
              have v0 := hBx.out.cell 0 _ rfl
              simp only [Nat.add_zero] at r0
              go_quiet (fail)
              have hB4 := Lib.hid (hBx.out.keep ((Keeps.refl (fun _ => False) _).drewN nq) id)
              have hK4 := Lib.hid (hKx.out.drewN nq)
              clear r0 v0
              go_wp2_with fail
              go_meet
              case rel => exact ⟨by rw [hf2.out], hB4, hK4⟩
        case rest =>
          obtain ⟨rfl, hBy, hKy⟩ := hcut
          clear c0 hBx hKx
          generalize wc = Wy at hBy hKy ⊢
          go_upto_if 55 with fail
          go_cut [3] (fun ov wx => (∃ S2 : ByteArray, ov = .string S2 ∧ S2.size ≤ 30200 ∧ Hid (S2.data.toList = S.data.toList ++ firstC (prevOf ls k) q)) ∧ Hid (BlkAt wx gx 28 [.int .i64 q.head, .string N, .string F, .string V]) ∧ Hid (Keeps (fun _ => False) w2 wx))
          case first =>
            cases fb with
            | false =>
              have hfn : firstC (prevOf ls k) q = [] := by have := hfb'.out; simpa using this
              have hfn' := Lib.hid hfn; clear hfn hfb'
              go_wp2_with fail
              go_meet
              case rel => exact ⟨⟨S, rfl, by omega, Lib.hid (by rw [hfn'.out]; simp)⟩, hBy, hKy⟩
            | true =>
              have hfe : firstC (prevOf ls k) q = headC q.head ++ [32] ++ q.name ++ [32, 123, 10] := by
                have h : ¬ firstC (prevOf ls k) q = [] := by have := hfb'.out; simpa using this
                unfold firstC at h ⊢
                split
                · split
                  · rename_i a b; simp only [a] at h; rw [if_pos b] at h; exact absurd rfl h
                  · rfl
                · rfl
              have hfe' := Lib.hid hfe; clear hfe hfb'
              rcases hh.out with hh0 | hh1 | hh2
              · exact absurd hh0 a0'.out
              · have hhc := Lib.hid hh1; clear hh1
                have hB0 : Hid (BlkAt Wy gx 28 [.int .i64 1, .string N, .string F, .string V]) := Lib.hid (by have := hBy.out; rw [hhc.out] at this; exact this)
                have q1 : ¬ (9223372036854775807 < S.size + 5) := by omega
                have q2 : ¬ (9223372036854775807 < S.size + 5 + N.size) := by omega
                have q3 : ¬ (9223372036854775807 < S.size + 5 + N.size + 3) := by omega
                go_upto_region 11 with fail
                refine wp_region_noPanic ?_
                refine wp_region_held_drew (S := (fun W => Keeps (fun _ => False) Wy W)) (by kernel_rfl) (((Keeps.refl _ _).drew)) (fun hHeld => ?_)
                refine tk 0 rfl ?_
                refine tk 2 rfl ?_
                refine tkL 3 rfl (yieldsIf_load_cell (by rfl) 3 (.tmp 58) rfl gx 0 rfl _ (fun _ s => (hB0.out.keep s id).cell 0 _ rfl) (fun w s => load_int w _ _ _ s)) ?_
                refine tk 7 rfl ?_
                refine tkL 8 rfl (yieldsIf_load_cell (by rfl) 9 (.tmp 63) rfl gx 1 rfl _ (fun _ s => (hB0.out.keep s id).cell 1 _ rfl) (fun w s => load_str w _ _ _ s)) ?_
                refine stepL 1 rfl (by kernel_rfl) (fun K hK => ?_)
                go_simp
                refine hK.out _ _ ((hHeld.alloc _)) (fun hHeld => ?_)
                clear hK K
                try simp only [Act.put, sA, sZ, sS]
                refine tk 4 rfl ?_
                refine stepL 5 rfl (by kernel_rfl) (fun K hK => ?_)
                go_simp
                refine hK.out _ _ (hHeld) (fun hHeld => ?_)
                clear hK K
                try simp only [Act.put, sA, sZ, sS]
                refine tk 6 rfl ?_
                refine tk 9 rfl ?_
                refine tk 10 rfl ?_
                refine tk 11 rfl ?_
                refine wpAnyH_done (by kernel_rfl) (NoPanic.normal ?_) _
                have hB7 := Lib.hid (hBy.out.keep hHeld id)
                have hK7 := Lib.hid (hKy.out.trans hHeld)
                clear hHeld hB0
                go_wp2_with fail
                go_meet
                case rel => exact ⟨⟨_, rfl, by simp only [ByteArray.size_append]; show S.size + 5 + N.size + 3 ≤ 30200; omega, Lib.hid (by rw [hfe'.out, hhc.out, ← hNl.out]; simp [headC])⟩, hB7, hK7⟩
              · have hhc := Lib.hid hh2; clear hh2
                have hB0 : Hid (BlkAt Wy gx 28 [.int .i64 2, .string N, .string F, .string V]) := Lib.hid (by have := hBy.out; rw [hhc.out] at this; exact this)
                have q1 : ¬ (9223372036854775807 < S.size + 10) := by omega
                have q2 : ¬ (9223372036854775807 < S.size + 10 + N.size) := by omega
                have q3 : ¬ (9223372036854775807 < S.size + 10 + N.size + 3) := by omega
                go_upto_region 11 with fail
                refine wp_region_noPanic ?_
                refine wp_region_held_drew (S := (fun W => Keeps (fun _ => False) Wy W)) (by kernel_rfl) (((Keeps.refl _ _).drew)) (fun hHeld => ?_)
                refine tk 0 rfl ?_
                refine tk 2 rfl ?_
                refine tkL 3 rfl (yieldsIf_load_cell (by rfl) 3 (.tmp 58) rfl gx 0 rfl _ (fun _ s => (hB0.out.keep s id).cell 0 _ rfl) (fun w s => load_int w _ _ _ s)) ?_
                refine tk 7 rfl ?_
                refine tkL 8 rfl (yieldsIf_load_cell (by rfl) 9 (.tmp 63) rfl gx 1 rfl _ (fun _ s => (hB0.out.keep s id).cell 1 _ rfl) (fun w s => load_str w _ _ _ s)) ?_
                refine stepL 1 rfl (by kernel_rfl) (fun K hK => ?_)
                go_simp
                refine hK.out _ _ ((hHeld.alloc _)) (fun hHeld => ?_)
                clear hK K
                try simp only [Act.put, sA, sZ, sS]
                refine tk 4 rfl ?_
                refine stepL 5 rfl (by kernel_rfl) (fun K hK => ?_)
                go_simp
                refine hK.out _ _ (hHeld) (fun hHeld => ?_)
                clear hK K
                try simp only [Act.put, sA, sZ, sS]
                refine tk 6 rfl ?_
                refine tk 9 rfl ?_
                refine tk 10 rfl ?_
                refine tk 11 rfl ?_
                refine wpAnyH_done (by kernel_rfl) (NoPanic.normal ?_) _
                have hB7 := Lib.hid (hBy.out.keep hHeld id)
                have hK7 := Lib.hid (hKy.out.trans hHeld)
                clear hHeld hB0
                go_wp2_with fail
                go_meet
                case rel => exact ⟨⟨_, rfl, by simp only [ByteArray.size_append]; show S.size + 10 + N.size + 3 ≤ 30200; omega, Lib.hid (by rw [hfe'.out, hhc.out, ← hNl.out]; simp [headC])⟩, hB7, hK7⟩
          case rest =>
            obtain ⟨⟨S2, rfl, sS2, hS2⟩, hBz, hKz⟩ := hcut
            clear hBy hKy hfb'
            generalize wc = Wz at hBz hKz ⊢
            have d2 := hBz.out.cell 2 _ rfl
            have d3 := hBz.out.cell 3 _ rfl
            obtain ⟨lb, hlb⟩ : ∃ lb : Bool, lb = !(decide (lastC q (ls[k + 1]?) = [])) := ⟨_, rfl⟩
            have hlb' := Lib.hid hlb; clear hlb
            have hwn : IntKind.i64.wrap ((ls.length : Int) - 1) = (ls.length : Int) - 1 := IntWalk.i64_in _ (by omega)
            go_upto_region 13 with fail
            clear d2 d3
            go_cut [103] (fun tv wx => tv = .bool lb ∧ Hid (Keeps (fun _ => False) w2 wx))
            case first =>
              by_cases hlast : k + 1 = ls.length
              · have el : ((k : Int) == (ls.length : Int) - 1) = true := by simp; omega
                have hf1 : lb = true := by rw [hlb'.out, List.getElem?_eq_none (by omega)]; rfl
                have hf2 := Lib.hid hf1; clear hf1 hlast
                go_quiet (fail)
                have hB5 := Lib.hid (hBz.out.keep ((Keeps.refl (fun _ => False) _).drewN nq) id)
                have hK5 := Lib.hid (hKz.out.drewN nq)
                go_wp2_with fail
                go_meet
                case rel => exact ⟨by rw [hf2.out], hK5⟩
              · have el : ((k : Int) == (ls.length : Int) - 1) = false := by simp; omega
                obtain ⟨x, hx⟩ : ∃ x, ls[k + 1]? = some x := ⟨_, List.getElem?_eq_getElem (by omega)⟩
                obtain ⟨Nx, hNx⟩ : ∃ N : ByteArray, N = ⟨x.name.toArray⟩ := ⟨_, rfl⟩
                obtain ⟨Fx, hFx⟩ : ∃ N : ByteArray, N = ⟨x.leaf.toArray⟩ := ⟨_, rfl⟩
                obtain ⟨Vx, hVx⟩ : ∃ N : ByteArray, N = ⟨x.value.toArray⟩ := ⟨_, rfl⟩
                have hnext : Hid (Wz.rangeAt g (o + (k + 1) * 4) [.int .i64 x.head, .string Nx, .string Fx, .string Vx]) := Lib.hid (by rw [hNx, hFx, hVx]; exact hKz.out.rangeAt (hrows'.out (k + 1) x hx) id)
                have hNxl : Hid (Nx.data.toList = x.name) := Lib.hid (by rw [hNx])
                have hx' := Lib.hid hx
                have l1 : IntKind.i64.wrap ((k : Int) + 1) = (k : Int) + 1 := IntWalk.i64_in _ (by omega)
                have l2 : (0 : Int) ≤ (k : Int) + 1 := by omega
                have l3 : (k : Int) + 1 < ls.length := by omega
                clear hNx hFx hVx hx hlast
                by_cases b1 : x.head = q.head
                · have f1 : (x.head != q.head) = false := by simp [b1]
                  have b1' := Lib.hid b1; clear b1
                  by_cases b2 : Nx.data.toList = N.data.toList
                  · have f2 := beq_list b2
                    have hf1 : lb = false := by rw [hlb'.out, hx'.out]; exact notdec_nil (lastC_yes b1'.out.symm (by rw [← hNxl.out, b2, hNl.out]))
                    have hf2 := Lib.hid hf1; clear hf1 b2
                    have r0 := hnext.out 0 _ rfl
                    have v0 := hBz.out.cell 0 _ rfl
                    simp only [Nat.add_zero] at r0
                    have r1 := hnext.out 1 _ rfl
                    have v1 := hBz.out.cell 1 _ rfl
                    go_quiet (fail)
                    have hB6 := Lib.hid (hBz.out.keep ((Keeps.refl (fun _ => False) _).drewN nq) id)
                    have hK6 := Lib.hid (hKz.out.drewN nq)
                    clear r0 v0 r1 v1
                    go_wp2_with fail
                    go_meet
                    case rel => exact ⟨by rw [hf2.out], hK6⟩
                  · have f2 := bne_list b2
                    have hf1 : lb = true := by rw [hlb'.out, hx'.out]; exact notdec_cons (b := [125]) (lastC_no (fun e => b2 (by rw [hNxl.out, hNl.out, e.2])))
                    have hf2 := Lib.hid hf1; clear hf1 b2
                    have r0 := hnext.out 0 _ rfl
                    have v0 := hBz.out.cell 0 _ rfl
                    simp only [Nat.add_zero] at r0
                    have r1 := hnext.out 1 _ rfl
                    have v1 := hBz.out.cell 1 _ rfl
                    go_quiet (fail)
                    have hB7 := Lib.hid (hBz.out.keep ((Keeps.refl (fun _ => False) _).drewN nq) id)
                    have hK7 := Lib.hid (hKz.out.drewN nq)
                    clear r0 v0 r1 v1
                    go_wp2_with fail
                    go_meet
                    case rel => exact ⟨by rw [hf2.out], hK7⟩
                · have f1 : (x.head != q.head) = true := by simp [b1]
                  have hf1 : lb = true := by rw [hlb'.out, hx'.out]; exact notdec_cons (b := [125]) (lastC_no (fun e => b1 e.1.symm))
                  have hf2 := Lib.hid hf1; clear hf1 b1
                  have r0 := hnext.out 0 _ rfl
                  have v0 := hBz.out.cell 0 _ rfl
                  simp only [Nat.add_zero] at r0
                  go_quiet (fail)
                  have hB8 := Lib.hid (hBz.out.keep ((Keeps.refl (fun _ => False) _).drewN nq) id)
                  have hK8 := Lib.hid (hKz.out.drewN nq)
                  clear r0 v0
                  go_wp2_with fail
                  go_meet
                  case rel => exact ⟨by rw [hf2.out], hK8⟩
            case rest =>
              obtain ⟨rfl, hKe⟩ := hcut
              clear hBz hKz hwn
              generalize wc = We at hKe ⊢
              cases lb with
              | false =>
                have hln : lastC q (ls[k + 1]?) = [] := by have := hlb'.out; simpa using this
                have hfin : Hid ((S2 ++ ⟨#[32, 32]⟩ ++ F ++ ⟨#[32]⟩ ++ V ++ ⟨#[59, 10]⟩).data.toList = textK ls (k + 1)) := Lib.hid (by rw [hstep.out]; unfold pieceC; rw [if_neg a0'.out, hln, ← hwl.out]; simp [hS2.out])
                clear hln hlb'
                go_wp2_with fail
                exact ⟨⟨k + 1, _, by omega, by go_num, rfl, hfin, hKe⟩, by simp [intOf]; omega⟩
              | true =>
                have hln : lastC q (ls[k + 1]?) = [125, 10] := by
                  have h : ¬ lastC q (ls[k + 1]?) = [] := by have := hlb'.out; simpa using this
                  unfold lastC at h ⊢
                  split
                  · split
                    · rename_i a b; simp only [a] at h; rw [if_pos b] at h; exact absurd rfl h
                    · rfl
                  · rfl
                have hfin : Hid ((S2 ++ ⟨#[32, 32]⟩ ++ F ++ ⟨#[32]⟩ ++ V ++ ⟨#[59, 10]⟩ ++ ⟨#[125, 10]⟩).data.toList = textK ls (k + 1)) := Lib.hid (by rw [hstep.out]; unfold pieceC; rw [if_neg a0'.out, hln, ← hwl.out]; simp [hS2.out])
                clear hln hlb'
                go_wp2_with fail
                exact ⟨⟨k + 1, _, by omega, by go_num, rfl, hfin, hKe⟩, by simp [intOf]; omega⟩
    · obtain rfl : k = ls.length := by omega
      have hTS : Hid (S = T) := Lib.hid (by rw [hT.out]; exact ba_of' hS.out)
      go_wp2_with fail
      go_ret
      exact ⟨by rw [← hTS.out]; rfl, k2'.out.trans hKr.out⟩
end Go.Proofs.Ytdjmhjgfjbcdkaa
/- A configuration as bytes, and back: plain. -/
set_option linter.unusedVariables false
set_option linter.unusedSimpArgs false
namespace Go.Proofs.Ytdjmhjgfjbcdkaa
open Go.RowKit

def txtB (s : List UInt8) : List UInt8 := UInt8.ofNat s.length :: s
def putLine (q : LineD) : List UInt8 := UInt8.ofNat q.head.toNat :: (txtB q.name ++ txtB q.leaf ++ txtB q.value)
def putAll (ls : List LineD) : List UInt8 := ls.flatMap putLine
def getT : List UInt8 → Option (List UInt8 × List UInt8)
  | [] => none
  | n :: r => if r.length < n.toNat then none else some (r.take n.toNat, r.drop n.toNat)
def getLn (h : UInt8) (b : List UInt8) : Option (LineD × List UInt8) :=
  match getT b with
  | none => none
  | some (n, b1) => match getT b1 with
    | none => none
    | some (l, b2) => match getT b2 with
      | none => none
      | some (v, b3) => some (⟨h.toNat, n, l, v⟩, b3)
def getF : Nat → List UInt8 → Option (List LineD)
  | _, [] => some []
  | 0, _ :: _ => none
  | f + 1, h :: r => match getLn h r with
    | none => none
    | some (q, r') => (getF f r').map (q :: ·)
def getAll (b : List UInt8) : Option (List LineD) := getF b.length b
def ansC (b : List UInt8) : List LineD × Nat := match getAll b with
  | none => ([], 4)
  | some ls => if rightC ls = true then (ls, 0) else ([], 3)

theorem getT_len {b s r : List UInt8} (h : getT b = some (s, r)) : s.length + r.length + 1 = b.length ∧ s.length ≤ 255 := by
  cases b with
  | nil => cases h
  | cons n t =>
    unfold getT at h
    by_cases hn : t.length < n.toNat
    · simp only [if_pos hn] at h; cases h
    · simp only [if_neg hn] at h
      injection h with h
      injection h with h1 h2
      subst h1; subst h2
      have := n.toNat_lt
      simp only [List.length_take, List.length_drop, List.length_cons]
      omega
theorem getLn_len {h : UInt8} {b r : List UInt8} {q : LineD} (e : getLn h b = some (q, r)) : r.length + 3 ≤ b.length ∧ q.name.length ≤ 255 ∧ q.leaf.length ≤ 255 ∧ q.value.length ≤ 255 := by
  unfold getLn at e
  split at e
  · cases e
  · rename_i n b1 h1
    split at e
    · cases e
    · rename_i l b2 h2
      split at e
      · cases e
      · rename_i v b3 h3
        simp only [Option.some.injEq, Prod.mk.injEq] at e
        obtain ⟨rfl, rfl⟩ := e
        have a1 := getT_len h1
        have a2 := getT_len h2
        have a3 := getT_len h3
        refine ⟨by omega, a1.2, a2.2, a3.2⟩
theorem getF_fuel : ∀ (f g : Nat) (b : List UInt8), b.length ≤ f → b.length ≤ g → getF f b = getF g b := by
  intro f
  induction f with
  | zero =>
    intro g b h1 h2
    cases b with
    | nil => cases g <;> rfl
    | cons => simp at h1
  | succ f ih =>
    intro g b h1 h2
    cases b with
    | nil => cases g <;> rfl
    | cons h r =>
      cases g with
      | zero => simp at h2
      | succ g =>
        simp only [getF]
        cases hg : getLn h r with
        | none => rfl
        | some qr =>
          obtain ⟨q, r'⟩ := qr
          have := (getLn_len hg).1
          simp only [List.length_cons] at h1 h2
          simp only []
          rw [ih g r' (by omega) (by omega)]
theorem getAll_nil : getAll [] = some [] := rfl
theorem getAll_none {h : UInt8} {r : List UInt8} (e : getLn h r = none) : getAll (h :: r) = none := by
  unfold getAll; simp only [List.length_cons, getF, e]
theorem getAll_some {h : UInt8} {r r' : List UInt8} {q : LineD} (e : getLn h r = some (q, r')) : getAll (h :: r) = (getAll r').map (q :: ·) := by
  unfold getAll; simp only [List.length_cons, getF, e]
  have := (getLn_len e).1
  rw [getF_fuel r.length r'.length r' (by omega) (Nat.le_refl _)]
theorem getT_txt {s r : List UInt8} (h : s.length ≤ 255) : getT (txtB s ++ r) = some (s, r) := by
  have e : (UInt8.ofNat s.length).toNat = s.length := by simp; omega
  unfold txtB getT
  simp only [List.cons_append, e]
  rw [if_neg (by simp)]
  simp
theorem getLn_put {q : LineD} {r : List UInt8} (hh : 0 ≤ q.head ∧ q.head ≤ 255) (h1 : q.name.length ≤ 255) (h2 : q.leaf.length ≤ 255) (h3 : q.value.length ≤ 255) : getLn (UInt8.ofNat q.head.toNat) (txtB q.name ++ txtB q.leaf ++ txtB q.value ++ r) = some (q, r) := by
  have e : (((UInt8.ofNat q.head.toNat).toNat : Nat) : Int) = q.head := by simp; omega
  unfold getLn
  rw [List.append_assoc, List.append_assoc, getT_txt h1]
  simp only []
  rw [getT_txt h2]
  simp only []
  rw [getT_txt h3]
  simp only [e]
theorem getAll_put : ∀ {ls : List LineD}, (∀ q ∈ ls, (0 ≤ q.head ∧ q.head ≤ 255) ∧ q.name.length ≤ 255 ∧ q.leaf.length ≤ 255 ∧ q.value.length ≤ 255) → getAll (putAll ls) = some ls := by
  intro ls
  induction ls with
  | nil => intro _; rfl
  | cons q ls ih =>
    intro h
    obtain ⟨h0, h1, h2, h3⟩ := h q (List.mem_cons_self ..)
    have e : putAll (q :: ls) = UInt8.ofNat q.head.toNat :: (txtB q.name ++ txtB q.leaf ++ txtB q.value ++ putAll ls) := by
      unfold putAll putLine; simp
    rw [e, getAll_some (getLn_put h0 h1 h2 h3), ih (fun r hr => h r (List.mem_cons_of_mem _ hr))]
    rfl
theorem right_small {ls : List LineD} (hr : rightC ls = true) : ∀ q ∈ ls, (0 ≤ q.head ∧ q.head ≤ 255) ∧ q.name.length ≤ 255 ∧ q.leaf.length ≤ 255 ∧ q.value.length ≤ 255 := fun q hq => by
  have h1 := line_small (right_line hr q hq)
  have h2 := line_head (right_line hr q hq)
  refine ⟨?_, by omega, by omega, by omega⟩
  rcases h2 with h | h | h <;> rw [h] <;> decide
theorem ans_put {ls : List LineD} (hr : rightC ls = true) : ansC (putAll ls) = (ls, 0) := by
  unfold ansC; rw [getAll_put (right_small hr)]; simp only []; rw [if_pos hr]
theorem putLine_len {q : LineD} (h : q.name.length ≤ 100 ∧ q.leaf.length ≤ 100 ∧ q.value.length ≤ 100) : (putLine q).length ≤ 304 := by
  unfold putLine txtB; simp; omega
theorem putAll_snoc (ls : List LineD) (q : LineD) : putAll (ls ++ [q]) = putAll ls ++ putLine q := by unfold putAll; simp
theorem putAll_len {ls : List LineD} (hs : ∀ q ∈ ls, q.name.length ≤ 100 ∧ q.leaf.length ≤ 100 ∧ q.value.length ≤ 100) : (putAll ls).length ≤ 304 * ls.length := by
  induction ls with
  | nil => simp [putAll]
  | cons q ls ih =>
    have e : putAll (q :: ls) = putLine q ++ putAll ls := by unfold putAll; simp
    rw [e, List.length_append, List.length_cons]
    have h1 := putLine_len (hs q (List.mem_cons_self ..))
    have h2 := ih (fun r hr => hs r (List.mem_cons_of_mem _ hr))
    omega
/-- what is told when the first lines are these, and the rest is this -/
theorem ans_right {b : List UInt8} : rightC (ansC b).1 = true := by
  unfold ansC
  split
  · decide +kernel
  · split
    · assumption
    · decide +kernel
end Go.Proofs.Ytdjmhjgfjbcdkaa
/- A text's bytes behind bytes of the call's own; a new block beside them. -/
set_option linter.unusedVariables false
set_option linter.unusedSimpArgs false
namespace Go.Proofs.Ytdjmhjgfjbcdkaa
open Go.RowKit

theorem strCells_bv (s : ByteArray) : Lib.strCells s = s.data.toList.map bv := by
  simp [Lib.strCells, Lib.byteCells, bv]
theorem OwnB.lt' {w0 w : World} {v : Value} {xs : List UInt8} (h : OwnB w0 w v xs) : ∀ k, v.ownBlock = some k → k < w.heap.size := fun k e => (h.1.lt k e).2
theorem OwnB.notBlk {w0 w : World} {v : Value} {xs : List UInt8} (h : OwnB w0 w v xs) {g : Nat} {t : TypeId} {cs : List Value} (hb : BlkAt w g t cs) (ht : t ≠ 5) : ¬ v.ownBlock = some g := fun e => by
  rcases h.1.2 with ⟨rfl, -⟩ | ⟨g2, cap, cur, rfl, -, hg, -⟩
  · cases e
  · simp only [Value.ownBlock, Option.some.injEq] at e
    subst e
    have hb : w.heap[g2]? = _ := hb
    rw [hb] at hg
    injection hg with hg
    injection hg with h1 h2 h3
    exact ht h2
theorem run_append_bx {P : Program} (w : World) (t ty : TypeId) (i : TypeInfo) (ht : P.underlying t = some (.slice 5)) (hi : P.info? 5 = some i) (hz : i.zero = some (.int .u8 0)) (hsize : i.size = 1) (hby : i.bytes = 1)
    (w0 : World) (v : Value) (xs : List UInt8) (hown : OwnB w0 w v xs) (sv : Value) (l : List UInt8) (hl : BytesAt w sv l) (hsz : xs.length + l.length ≤ 70368744177664) :
    ∃ p c w', (Builtin.append_ #[t, t] ty #[v, sv]).run P w = .ok (.slice p (xs.length + l.length) c) w' ∧ OwnB w0 w' (.slice p (xs.length + l.length) c) (xs ++ l) ∧ Grown w v p (xs.length + l.length) c w' := by
  obtain ⟨sp, sc, rfl, hp, -, hlr⟩ := hl
  cases sp with
  | none =>
    have h0 : l.length = 0 := by
      rcases Nat.eq_zero_or_pos l.length with h | h
      · exact h
      · obtain ⟨b, o, e, _⟩ := hlr h; cases e
    have hc := hp rfl
    subst hc
    have hl0 : l = [] := List.length_eq_zero_iff.1 h0
    subst hl0
    obtain ⟨p, c, rfl⟩ := hown.slice
    exact ⟨p, c, w, run_append_owned_none (P := P) (w := w) 0 t ty 5 i 1 ht hi _ xs.length (xs.map bv) hown.1, by simpa using hown, Keeps.refl _ _, fun k e => .inl e⟩
  | some ad =>
    obtain ⟨v', w', hr, h2, h3, h4⟩ := run_append_sep (P := P) w t ty 5 i (.int .u8 0) 1 1 ht hi hz hsize hby rfl (by decide) v xs.length (xs.map bv) hown.1 ad l.length sc (l.map bv) (by simp) (fun j u hu => by
      have h0 : 0 < l.length := by
        have := (List.getElem?_eq_some_iff.1 hu).1; simp at this; omega
      obtain ⟨b, o, e, hr⟩ := hlr h0
      injection e with e; subst e
      rw [Addr.add_mid]; exact hr j u hu) (bv_one l) (by unfold maxLen; omega) (by omega)
    obtain ⟨p, c, rfl⟩ := ownsRow_slice h2
    refine ⟨p, c, w', hr, ⟨by simpa using h2, fun k e => ?_, Nat.le_trans hown.2.2 h3.size⟩, (Keeps.refl _ _).grown h3 (fun k e => .inl e), h4⟩
    rcases h4 k e with e | e
    · exact hown.2.1 k e
    · exact Nat.le_trans hown.2.2 e
/-- bytes of whatever source behind bytes of the call's own: one operation -/
theorem wp_append_bx {P : Program} {w : World} {o : Oper} {a : Act} {K : Act → World → Prop} {Q : Exit → Act → World → Prop} (s x : Operand) (t : TypeId)
    (ho : o.op = .call { callee := .builtin .append, args := #[s, x], argTypes := #[t, t] })
    (i : TypeInfo) (ht : P.underlying t = some (.slice 5)) (hi : P.info? 5 = some i) (hz : i.zero = some (.int .u8 0)) (hsize : i.size = 1) (hby : i.bytes = 1)
    (w0 : World) (v : Value) (xs : List UInt8) (hs : a.eval s = v) (hown : OwnB w0 w v xs) (sv : Value) (hx : a.eval x = sv) (l : List UInt8) (hl : BytesAt w sv l) (hsz : xs.length + l.length ≤ 70368744177664)
    (h : ∀ p c w', OwnB w0 w' (.slice p (xs.length + l.length) c) (xs ++ l) → Grown w v p (xs.length + l.length) c w' → K (a.put o.dst (.slice p (xs.length + l.length) c)) w') : Oper.wp P o a w K Q := by
  obtain ⟨p, c, w', hr, h1, h2⟩ := run_append_bx (P := P) w t o.type i ht hi hz hsize hby w0 v xs hown sv l hl hsz
  unfold Oper.wp execOp
  simp only [ho, resolve, invoke, builtin, Sem.run_bind, Sem.run_pure, Result.andThen_ok, List.map_toArray, List.map_cons, List.map_nil, hs, hx, hr]
  exact h p c w' h1 h2
theorem run_append_str {P : Program} (w : World) (t u ty : TypeId) (i : TypeInfo) (ht : P.underlying t = some (.slice 5)) (hu : P.underlying u = some .string) (hi : P.info? 5 = some i) (hz : i.zero = some (.int .u8 0)) (hsize : i.size = 1) (hby : i.bytes = 1)
    (w0 : World) (v : Value) (xs : List UInt8) (hown : OwnB w0 w v xs) (s : ByteArray) (hsz : xs.length + s.size ≤ 70368744177664) :
    ∃ p c w', (Builtin.append_ #[t, u] ty #[v, .string s]).run P w = .ok (.slice p (xs.length + s.size) c) w' ∧ OwnB w0 w' (.slice p (xs.length + s.size) c) (xs ++ s.data.toList) ∧ Keeps (fun k => v.ownBlock = some k) w w' := by
  have hb : w.ownsRow w0.heap.size 5 1 v xs.length (xs.map bv) := by
    refine ⟨hown.1.1, ?_⟩
    rcases hown.1.2 with ⟨rfl, h0⟩ | ⟨g, cap, cur, rfl, h1, h2⟩
    · exact .inl ⟨rfl, h0⟩
    · exact .inr ⟨g, cap, cur, rfl, hown.2.1 g rfl, h2⟩
  obtain ⟨v', w', hr, h2, h3, -⟩ := Lib.run_append_own_string (P := P) w w0.heap.size t u ty 5 i ht hu hi hz hsize hby v xs.length (xs.map bv) hb s (by unfold maxLen; omega) (by omega) hown.2.2
  obtain ⟨p, c, rfl⟩ := ownsRow_slice h2
  refine ⟨p, c, w', hr, ⟨⟨?_, ?_⟩, fun k e => ?_, Nat.le_trans hown.2.2 h3.size⟩, (Keeps.refl _ _).grown h3 (fun k e => .inl e)⟩
  · simp
  · have h4 := h2.2
    rw [strCells_bv, ← List.map_append] at h4
    rw [List.length_append, show s.data.toList.length = s.size by simp]
    rcases h4 with ⟨e, h0⟩ | ⟨g, cap, cur, e, h1, h5⟩
    · exact .inl ⟨e, h0⟩
    · exact .inr ⟨g, cap, cur, e, Nat.zero_le _, h5⟩
  · rcases h2.2 with ⟨e2, h0⟩ | ⟨g, cap, cur, e2, h1, h5⟩
    · rw [e2] at e; cases e
    · rw [e2] at e; simp only [Value.ownBlock, Option.some.injEq] at e; omega
theorem wp_append_str {P : Program} {w : World} {o : Oper} {a : Act} {K : Act → World → Prop} {Q : Exit → Act → World → Prop} (s x : Operand) (t u : TypeId)
    (ho : o.op = .call { callee := .builtin .append, args := #[s, x], argTypes := #[t, u] })
    (i : TypeInfo) (ht : P.underlying t = some (.slice 5)) (hu : P.underlying u = some .string) (hi : P.info? 5 = some i) (hz : i.zero = some (.int .u8 0)) (hsize : i.size = 1) (hby : i.bytes = 1)
    (w0 : World) (v : Value) (xs : List UInt8) (hs : a.eval s = v) (hown : OwnB w0 w v xs) (z : ByteArray) (hx : a.eval x = .string z) (hsz : xs.length + z.size ≤ 70368744177664)
    (h : ∀ p c w', OwnB w0 w' (.slice p (xs.length + z.size) c) (xs ++ z.data.toList) → Keeps (fun k => v.ownBlock = some k) w w' → K (a.put o.dst (.slice p (xs.length + z.size) c)) w') : Oper.wp P o a w K Q := by
  obtain ⟨p, c, w', hr, h1, h2⟩ := run_append_str (P := P) w t u o.type i ht hu hi hz hsize hby w0 v xs hown z hsz
  unfold Oper.wp execOp
  simp only [ho, resolve, invoke, builtin, Sem.run_bind, Sem.run_pure, Result.andThen_ok, List.map_toArray, List.map_cons, List.map_nil, hs, hx, hr]
  exact h p c w' h1 h2
theorem wpList_append_str {P : Program} {w : World} {ops : Array Oper} {rest : List Oper} {o : Oper} {a : Act} {Q : Exit → Act → World → Prop} (hgd : o.guard = none) (s x : Operand) (t u : TypeId)
    (ho : o.op = .call { callee := .builtin .append, args := #[s, x], argTypes := #[t, u] })
    (i : TypeInfo) (ht : P.underlying t = some (.slice 5)) (hu : P.underlying u = some .string) (hi : P.info? 5 = some i) (hz : i.zero = some (.int .u8 0)) (hsize : i.size = 1) (hby : i.bytes = 1)
    (w0 : World) (v : Value) (xs : List UInt8) (hs : a.eval s = v) (hown : OwnB w0 w v xs) (z : ByteArray) (hx : a.eval x = .string z) (hsz : xs.length + z.size ≤ 70368744177664)
    (h : ∀ p c w', Hid (OwnB w0 w' (.slice p (xs.length + z.size) c) (xs ++ z.data.toList)) → Hid (Keeps (fun k => v.ownBlock = some k) w w') → wpList P ops Q rest (a.put o.dst (.slice p (xs.length + z.size) c)) w') : wpList P ops Q (o :: rest) a w :=
  wpList_plain hgd fun K hK => wp_append_str s x t u ho i ht hu hi hz hsize hby w0 v xs hs hown z hx hsz (fun p c w' h1 h2 => hK _ _ (h p c w' (Lib.hid h1) (Lib.hid h2)))
/-- a line's block, and all that was there at the start -/
def BoxK (w : World) (g : Nat) (t : TypeId) (cs : List Value) (W : World) : Prop := BlkAt W g t cs ∧ Keeps (fun _ => False) w W
theorem BoxK.next {w W W' : World} {g : Nat} {t : TypeId} {cs : List Value} (h : BoxK w g t cs W) (k : Keeps (fun _ => False) W W') : BoxK w g t cs W' := ⟨h.1.keep k id, h.2.trans k⟩
theorem BoxK.app {w W W' : World} {g : Nat} {t : TypeId} {cs : List Value} (h : BoxK w g t cs W) (ht : t ≠ 5) {v : Value} {xs : List UInt8} (hO : OwnB w W v xs) (k : Keeps (fun k => v.ownBlock = some k) W W') : BoxK w g t cs W' :=
  ⟨h.1.keep k (hO.notBlk h.1 ht), h.2.trans' k (fun i e => .inr (hO.2.1 i e))⟩
theorem one_bytes (W : World) (x : List UInt8) {n : Nat} (hn : x.length = n) (hm : n ≤ 1000) : BytesAt (W.alloc (.cells (x.map bv).toArray 5)) (.slice (some ⟨W.heap.size, 0, none⟩) n n) x := by
  subst hn
  exact (OwnB.new W W (Nat.le_refl _) x rfl (by unfold maxLen; omega)).bytes
end Go.Proofs.Ytdjmhjgfjbcdkaa
