/- The document's Text of any right configuration, walked (gen_zti.py: a part of CGS). -/
import Derived.Test.YtljfeefhlbgopaaDoorU14
import Derived.Deep.DeepCutAuto
import Derived.BigQuiet
import Derived.Test.YtljfeefhlbgopaaDoorRows
import Derived.ProofKit
import Derived.OpenShut
import Derived.JoinedCond
import Derived.Deep.Grids
import Derived.Deep.Slices
import Derived.Test.YtljfeefhlbgopaaDoorTie
import Derived.Test.YtljfeefhlbgopaaDoorCards
import Derived.ShutString
import Derived.ChangeOld
import Derived.LaidMore
import Derived.Stop.Joined
import Derived.SevenTiedAt
import Derived.Lib.LaidTab
import Derived.SizedLaws
set_option linter.unusedVariables false
set_option linter.unusedSimpArgs false
set_option linter.unusedVariables false
set_option linter.unusedSimpArgs false
namespace Go.Proofs.YtljfeefhlbgopaaDoor
open Go.RowKit

theorem beq_list {a b : ByteArray} (h : a.data.toList = b.data.toList) : (a.toList == b.toList) = true := by rw [Lib.toList_data, Lib.toList_data]; simpa using h
theorem bne_list {a b : ByteArray} (h : a.data.toList ≠ b.data.toList) : (a.toList == b.toList) = false := by rw [Lib.toList_data, Lib.toList_data]; simpa using h
set_option maxRecDepth 100000 in
set_option maxHeartbeats 32000000 in
theorem rText_c (v : Value) (ls : List LineD) (T : ByteArray) (w : World) (hv : Hid (RowsAt 4 lineVals w v ls)) (hr : Hid (rightC ls = true)) (hT : Hid (T = ⟨(textK ls ls.length).toArray⟩)) :
    Calls Tryd.prog 11 #[v] w (NewRes (.string T) w) := by
  have hlen := right_len hr.out
  have hlt := Lib.hid (right_lt hr.out 8796093022000 (by omega))
  have hsm := Lib.hid (fun q hq => line_small (right_line hr.out q hq))
  have hhd := Lib.hid (fun q hq => line_head (right_line hr.out q hq))
  have htl := Lib.hid (textK_len hsm.out)
  obtain ⟨p, c, rfl⟩ := hv.out.slice
  have hLn := Lib.hid hv.out.lines
  go_enter Tryd.func11, Tryd.ntmps11
  go_wp2_with fail
  refine (rRight_c _ ls true _ hLn (by omega) hlt hr).mono ?_
  rintro e w2 ⟨rfl, k2⟩
  have k2' := Lib.hid k2
  have hv2 := Lib.hid (hv.out.keep k2)
  clear k2 hLn hlt hr hv
  go_wp2_with fail
  go_loopw [4, 3] (fun iv ov wr => ∃ (k : Nat) (S : ByteArray), k ≤ ls.length ∧ iv = .int .i64 k ∧ ov = .string S ∧ Hid (S.data.toList = textK ls k) ∧ Hid (Keeps (fun _ => False) w2 wr)) (fun iv _ _ => ls.length - (intOf iv).toNat)
  case atStart => exact ⟨0, ⟨#[]⟩, by omega, rfl, rfl, Lib.hid rfl, Lib.hid (Keeps.refl _ _)⟩
  case round =>
    obtain ⟨k, S, hk, rfl, rfl, hS, hKr⟩ := hrel
    have htk := htl.out k
    rw [← hS.out] at htk
    have sS : S.size ≤ 30000 := by
      have e : S.data.toList.length = S.size := by simp
      omega
    clear htk
    by_cases hlk : k < ls.length
    · obtain ⟨g, o, rfl, hrows⟩ := hv2.out.open (by omega)
      obtain ⟨q, hq⟩ : ∃ q, ls[k]? = some q := ⟨_, List.getElem?_eq_getElem hlk⟩
      obtain ⟨z1, z2, z3⟩ := hsm.out q (List.mem_of_getElem? hq)
      have hh := Lib.hid (hhd.out q (List.mem_of_getElem? hq))
      obtain ⟨N, hN⟩ : ∃ N : ByteArray, N = ⟨q.name.toArray⟩ := ⟨_, rfl⟩
      obtain ⟨F, hF⟩ : ∃ N : ByteArray, N = ⟨q.leaf.toArray⟩ := ⟨_, rfl⟩
      obtain ⟨V, hV⟩ : ∃ N : ByteArray, N = ⟨q.value.toArray⟩ := ⟨_, rfl⟩
      have sN : N.size ≤ 100 := by rw [hN]; exact z1
      have sF : F.size ≤ 100 := by rw [hF]; exact z2
      have sV : V.size ≤ 100 := by rw [hV]; exact z3
      have hrw : Hid (wr.rangeAt g (o + k * 4) [.int .i64 q.head, .string N, .string F, .string V]) := Lib.hid (by rw [hN, hF, hV]; exact hKr.out.rangeAt (hrows k q hq) id)
      have hNl : Hid (N.data.toList = q.name) := Lib.hid (by rw [hN])
      have hwl : Hid (F.data.toList ++ [32] ++ V.data.toList ++ [59, 10] = writtenC q) := Lib.hid (by rw [hF, hV]; rfl)
      have hstep := Lib.hid (textK_step hq)
      rw [← hS.out] at hstep
      have hrows' := Lib.hid hrows
      have hq' := Lib.hid hq
      have hBx : Hid (BlkAt (wr.alloc (.cells #[.int .i64 q.head, .string N, .string F, .string V] 37)) wr.heap.size 37 [.int .i64 q.head, .string N, .string F, .string V]) := Lib.hid (BlkAt.new _ _ _)
      have hKx : Hid (Keeps (fun _ => False) w2 (wr.alloc (.cells #[.int .i64 q.head, .string N, .string F, .string V] 37))) := Lib.hid (hKr.out.alloc _)
      have m1 : (0 : Int) ≤ (k : Int) := by omega
      have m2 : (k : Int) < (ls.length : Int) := by omega
      clear hrows hN hF hV hq z1 z2 z3 hS
      have c0 := hBx.out.cell 0 _ rfl
      have c2 := hBx.out.cell 2 _ rfl
      have c3 := hBx.out.cell 3 _ rfl
      go_upto_region 8 with (first | ((with_reducible refine at_slot 19 ?_); refine wpList_load_mid rfl 37 (.tmp 18) rfl g (o + k * 4) rfl [.int .i64 q.head, .string N, .string F, .string V] _ hrw.out Tryd.underlying37 rfl line5InfoG ?_) | ((with_reducible refine at_store 5 ?_); refine wpList_store_new rfl 37 (.tmp 5) (.tmp 19) rfl _ #[.int .i64 q.head, .string N, .string F, .string V] rfl rfl line5InfoG rfl (line_one _ _ _ _) ?_))
      generalize hgx : wr.heap.size = gx at hBx c0 c2 c3 ⊢
      generalize hWx : wr.alloc (.cells #[.int .i64 q.head, .string N, .string F, .string V] 37) = Wx at hBx hKx c0 c2 c3 ⊢
      clear hgx hWx hrw hKr
      by_cases a0 : q.head = 0
      · have e0 : (q.head == 0) = true := by simp [a0]
        have a0' := Lib.hid a0; clear a0
        have hfin : Hid ((S ++ F ++ ⟨#[32]⟩ ++ V ++ ⟨#[59, 10]⟩).data.toList = textK ls (k + 1)) := Lib.hid (by rw [hstep.out]; unfold pieceC; rw [if_pos a0'.out, ← hwl.out]; simp)
        go_wp2_with fail
        exact ⟨⟨k + 1, _, by omega, by go_num, rfl, hfin, hKx⟩, by simp [intOf]; omega⟩
      · have e0 : (q.head == 0) = false := by simpa using a0
        have a0' := Lib.hid a0; clear a0 c2 c3
        obtain ⟨fb, hfb⟩ : ∃ fb : Bool, fb = !(decide (firstC (prevOf ls k) q = [])) := ⟨_, rfl⟩
        have hfb' := Lib.hid hfb; clear hfb
        go_upto_region 10 with fail
        go_cut [55] (fun tv wx => tv = .bool fb ∧ Hid (BlkAt wx gx 37 [.int .i64 q.head, .string N, .string F, .string V]) ∧ Hid (Keeps (fun _ => False) w2 wx))
        case first =>
          by_cases k0 : k = 0
          · have e1 : ((k : Int) == 0) = true := by simp [k0]
            have hf1 : fb = true := by rw [hfb'.out, k0]; exact notdec_cons ((show firstC (prevOf ls 0) q = headC q.head ++ [32] ++ q.name ++ [32, 123, 10] from rfl).trans (list_ends _ _))
            have hf2 := Lib.hid hf1; clear hf1 k0 c0
            go_quiet (fail)
            have hB1 := Lib.hid (hBx.out.keep ((Keeps.refl (fun _ => False) _).drewN nq) id)
            have hK1 := Lib.hid (hKx.out.drewN nq)
            go_wp2_with fail
            go_meet
            case rel => exact ⟨by rw [hf2.out], hB1, hK1⟩
          · have e1 : ((k : Int) == 0) = false := by simp; omega
            obtain ⟨j, hj⟩ : ∃ j, k = j + 1 := ⟨k - 1, by omega⟩
            obtain ⟨b, hbq⟩ : ∃ b, ls[j]? = some b := ⟨_, List.getElem?_eq_getElem (by omega)⟩
            have hpv : prevOf ls k = some b := by rw [hj]; exact hbq
            obtain ⟨Nb, hNb⟩ : ∃ N : ByteArray, N = ⟨b.name.toArray⟩ := ⟨_, rfl⟩
            obtain ⟨Fb, hFb⟩ : ∃ N : ByteArray, N = ⟨b.leaf.toArray⟩ := ⟨_, rfl⟩
            obtain ⟨Vb, hVb⟩ : ∃ N : ByteArray, N = ⟨b.value.toArray⟩ := ⟨_, rfl⟩
            have hprev : Hid (Wx.rangeAt g (o + j * 4) [.int .i64 b.head, .string Nb, .string Fb, .string Vb]) := Lib.hid (by rw [hNb, hFb, hVb]; exact hKx.out.rangeAt (hrows'.out j b hbq) id)
            have hNbl : Hid (Nb.data.toList = b.name) := Lib.hid (by rw [hNb])
            have l1 : IntKind.i64.wrap ((k : Int) - 1) = (j : Int) := by rw [IntWalk.i64_in _ (by omega)]; omega
            have l3 : (0 : Int) ≤ (j : Int) := by omega
            have l4 : (j : Int) < ls.length := by omega
            have hpv' := Lib.hid hpv
            clear hNb hFb hVb hbq hj k0 hpv
            by_cases a1 : b.head = q.head
            · have e2 : (b.head != q.head) = false := by simp [a1]
              have a1' := Lib.hid a1; clear a1 c0
              by_cases a2 : Nb.data.toList = N.data.toList
              · have e3 := beq_list a2
                have hf1 : fb = false := by rw [hfb'.out, hpv'.out]; exact notdec_nil (firstC_yes a1'.out (by rw [← hNbl.out, a2, hNl.out]))
                have hf2 := Lib.hid hf1; clear hf1 a2
                have r0 := hprev.out 0 _ rfl
                have v0 := hBx.out.cell 0 _ rfl
                simp only [Nat.add_zero] at r0
                have r1 := hprev.out 1 _ rfl
                have v1 := hBx.out.cell 1 _ rfl
                go_quiet (fail)
                have hB2 := Lib.hid (hBx.out.keep ((Keeps.refl (fun _ => False) _).drewN nq) id)
                have hK2 := Lib.hid (hKx.out.drewN nq)
                clear r0 v0 r1 v1
                go_wp2_with fail
                go_meet
                case rel => exact ⟨by rw [hf2.out], hB2, hK2⟩
              · have e3 := bne_list a2
                have hf1 : fb = true := by rw [hfb'.out, hpv'.out]; exact notdec_cons ((firstC_no (fun e => a2 (by rw [hNbl.out, hNl.out, e.2]))).trans (list_ends _ _))
                have hf2 := Lib.hid hf1; clear hf1 a2
                have r0 := hprev.out 0 _ rfl
                have v0 := hBx.out.cell 0 _ rfl
                simp only [Nat.add_zero] at r0
                have r1 := hprev.out 1 _ rfl
                have v1 := hBx.out.cell 1 _ rfl
                go_quiet (fail)
                have hB3 := Lib.hid (hBx.out.keep ((Keeps.refl (fun _ => False) _).drewN nq) id)
                have hK3 := Lib.hid (hKx.out.drewN nq)
                clear r0 v0 r1 v1
                go_wp2_with fail
                go_meet
                case rel => exact ⟨by rw [hf2.out], hB3, hK3⟩
            · have e2 : (b.head != q.head) = true := by simp [a1]
              have hf1 : fb = true := by rw [hfb'.out, hpv'.out]; exact notdec_cons ((firstC_no (fun e => a1 e.1)).trans (list_ends _ _))
              have hf2 := Lib.hid hf1; clear hf1 a1 c0
              have r0 := hprev.out 0 _ rfl
              have v0 := hBx.out.cell 0 _ rfl
              simp only [Nat.add_zero] at r0
              go_quiet (fail)
              have hB4 := Lib.hid (hBx.out.keep ((Keeps.refl (fun _ => False) _).drewN nq) id)
              have hK4 := Lib.hid (hKx.out.drewN nq)
              clear r0 v0
              go_wp2_with fail
              go_meet
              case rel => exact ⟨by rw [hf2.out], hB4, hK4⟩
        case rest =>
          obtain ⟨rfl, hBy, hKy⟩ := hcut
          clear c0 hBx hKx
          generalize wc = Wy at hBy hKy ⊢
          go_upto_if 55 with fail
          go_cut [3] (fun ov wx => (∃ S2 : ByteArray, ov = .string S2 ∧ S2.size ≤ 30200 ∧ Hid (S2.data.toList = S.data.toList ++ firstC (prevOf ls k) q)) ∧ Hid (BlkAt wx gx 37 [.int .i64 q.head, .string N, .string F, .string V]) ∧ Hid (Keeps (fun _ => False) w2 wx))
          case first =>
            cases fb with
            | false =>
              have hfn : firstC (prevOf ls k) q = [] := by have := hfb'.out; simpa using this
              have hfn' := Lib.hid hfn; clear hfn hfb'
              go_wp2_with fail
              go_meet
              case rel => exact ⟨⟨S, rfl, by omega, Lib.hid (by rw [hfn'.out]; simp)⟩, hBy, hKy⟩
            | true =>
              have hfe : firstC (prevOf ls k) q = headC q.head ++ [32] ++ q.name ++ [32, 123, 10] := by
                have h : ¬ firstC (prevOf ls k) q = [] := by have := hfb'.out; simpa using this
                unfold firstC at h ⊢
                split
                · split
                  · rename_i a b; simp only [a] at h; rw [if_pos b] at h; exact absurd rfl h
                  · rfl
                · rfl
              have hfe' := Lib.hid hfe; clear hfe hfb'
              rcases hh.out with hh0 | hh1 | hh2
              · exact absurd hh0 a0'.out
              · have hhc := Lib.hid hh1; clear hh1
                have hB0 : Hid (BlkAt Wy gx 37 [.int .i64 1, .string N, .string F, .string V]) := Lib.hid (by have := hBy.out; rw [hhc.out] at this; exact this)
                have q1 : ¬ (9223372036854775807 < S.size + 5) := by omega
                have q2 : ¬ (9223372036854775807 < S.size + 5 + N.size) := by omega
                have q3 : ¬ (9223372036854775807 < S.size + 5 + N.size + 3) := by omega
                go_upto_region 11 with fail
                refine wp_region_noPanic ?_
                refine wp_region_held_drew (S := (fun W => Keeps (fun _ => False) Wy W)) (by kernel_rfl) (((Keeps.refl _ _).drew)) (fun hHeld => ?_)
                refine tk 0 rfl ?_
                refine tk 2 rfl ?_
                refine tkL 3 rfl (yieldsIf_load_cell (by rfl) 3 (.tmp 58) rfl gx 0 rfl _ (fun _ s => (hB0.out.keep s id).cell 0 _ rfl) (fun w s => load_int w _ _ _ s)) ?_
                refine tk 7 rfl ?_
                refine tkL 8 rfl (yieldsIf_load_cell (by rfl) 9 (.tmp 63) rfl gx 1 rfl _ (fun _ s => (hB0.out.keep s id).cell 1 _ rfl) (fun w s => load_str w _ _ _ s)) ?_
                refine stepL 1 rfl (by kernel_rfl) (fun K hK => ?_)
                go_simp
                refine hK.out _ _ ((hHeld.alloc _)) (fun hHeld => ?_)
                clear hK K
                try simp only [Act.put, sA, sZ, sS]
                refine tk 4 rfl ?_
                refine stepL 5 rfl (by kernel_rfl) (fun K hK => ?_)
                go_simp
                refine hK.out _ _ (hHeld) (fun hHeld => ?_)
                clear hK K
                try simp only [Act.put, sA, sZ, sS]
                refine tk 6 rfl ?_
                refine tk 9 rfl ?_
                refine tk 10 rfl ?_
                refine tk 11 rfl ?_
                refine wpAnyH_done (by kernel_rfl) (NoPanic.normal ?_) _
                have hB7 := Lib.hid (hBy.out.keep hHeld id)
                have hK7 := Lib.hid (hKy.out.trans hHeld)
                clear hHeld hB0
                go_wp2_with fail
                go_meet
                case rel => exact ⟨⟨_, rfl, by simp only [ByteArray.size_append]; show S.size + 5 + N.size + 3 ≤ 30200; omega, Lib.hid (by rw [hfe'.out, hhc.out, ← hNl.out]; simp [headC])⟩, hB7, hK7⟩
              · have hhc := Lib.hid hh2; clear hh2
                have hB0 : Hid (BlkAt Wy gx 37 [.int .i64 2, .string N, .string F, .string V]) := Lib.hid (by have := hBy.out; rw [hhc.out] at this; exact this)
                have q1 : ¬ (9223372036854775807 < S.size + 10) := by omega
                have q2 : ¬ (9223372036854775807 < S.size + 10 + N.size) := by omega
                have q3 : ¬ (9223372036854775807 < S.size + 10 + N.size + 3) := by omega
                go_upto_region 11 with fail
                refine wp_region_noPanic ?_
                refine wp_region_held_drew (S := (fun W => Keeps (fun _ => False) Wy W)) (by kernel_rfl) (((Keeps.refl _ _).drew)) (fun hHeld => ?_)
                refine tk 0 rfl ?_
                refine tk 2 rfl ?_
                refine tkL 3 rfl (yieldsIf_load_cell (by rfl) 3 (.tmp 58) rfl gx 0 rfl _ (fun _ s => (hB0.out.keep s id).cell 0 _ rfl) (fun w s => load_int w _ _ _ s)) ?_
                refine tk 7 rfl ?_
                refine tkL 8 rfl (yieldsIf_load_cell (by rfl) 9 (.tmp 63) rfl gx 1 rfl _ (fun _ s => (hB0.out.keep s id).cell 1 _ rfl) (fun w s => load_str w _ _ _ s)) ?_
                refine stepL 1 rfl (by kernel_rfl) (fun K hK => ?_)
                go_simp
                refine hK.out _ _ ((hHeld.alloc _)) (fun hHeld => ?_)
                clear hK K
                try simp only [Act.put, sA, sZ, sS]
                refine tk 4 rfl ?_
                refine stepL 5 rfl (by kernel_rfl) (fun K hK => ?_)
                go_simp
                refine hK.out _ _ (hHeld) (fun hHeld => ?_)
                clear hK K
                try simp only [Act.put, sA, sZ, sS]
                refine tk 6 rfl ?_
                refine tk 9 rfl ?_
                refine tk 10 rfl ?_
                refine tk 11 rfl ?_
                refine wpAnyH_done (by kernel_rfl) (NoPanic.normal ?_) _
                have hB7 := Lib.hid (hBy.out.keep hHeld id)
                have hK7 := Lib.hid (hKy.out.trans hHeld)
                clear hHeld hB0
                go_wp2_with fail
                go_meet
                case rel => exact ⟨⟨_, rfl, by simp only [ByteArray.size_append]; show S.size + 10 + N.size + 3 ≤ 30200; omega, Lib.hid (by rw [hfe'.out, hhc.out, ← hNl.out]; simp [headC])⟩, hB7, hK7⟩
          case rest =>
            obtain ⟨⟨S2, rfl, sS2, hS2⟩, hBz, hKz⟩ := hcut
            clear hBy hKy hfb'
            generalize wc = Wz at hBz hKz ⊢
            have d2 := hBz.out.cell 2 _ rfl
            have d3 := hBz.out.cell 3 _ rfl
            obtain ⟨lb, hlb⟩ : ∃ lb : Bool, lb = !(decide (lastC q (ls[k + 1]?) = [])) := ⟨_, rfl⟩
            have hlb' := Lib.hid hlb; clear hlb
            have hwn : IntKind.i64.wrap ((ls.length : Int) - 1) = (ls.length : Int) - 1 := IntWalk.i64_in _ (by omega)
            go_upto_region 13 with fail
            clear d2 d3
            go_cut [103] (fun tv wx => tv = .bool lb ∧ Hid (Keeps (fun _ => False) w2 wx))
            case first =>
              by_cases hlast : k + 1 = ls.length
              · have el : ((k : Int) == (ls.length : Int) - 1) = true := by simp; omega
                have hf1 : lb = true := by rw [hlb'.out, List.getElem?_eq_none (by omega)]; rfl
                have hf2 := Lib.hid hf1; clear hf1 hlast
                go_quiet (fail)
                have hB5 := Lib.hid (hBz.out.keep ((Keeps.refl (fun _ => False) _).drewN nq) id)
                have hK5 := Lib.hid (hKz.out.drewN nq)
                go_wp2_with fail
                go_meet
                case rel => exact ⟨by rw [hf2.out], hK5⟩
              · have el : ((k : Int) == (ls.length : Int) - 1) = false := by simp; omega
                obtain ⟨x, hx⟩ : ∃ x, ls[k + 1]? = some x := ⟨_, List.getElem?_eq_getElem (by omega)⟩
                obtain ⟨Nx, hNx⟩ : ∃ N : ByteArray, N = ⟨x.name.toArray⟩ := ⟨_, rfl⟩
                obtain ⟨Fx, hFx⟩ : ∃ N : ByteArray, N = ⟨x.leaf.toArray⟩ := ⟨_, rfl⟩
                obtain ⟨Vx, hVx⟩ : ∃ N : ByteArray, N = ⟨x.value.toArray⟩ := ⟨_, rfl⟩
                have hnext : Hid (Wz.rangeAt g (o + (k + 1) * 4) [.int .i64 x.head, .string Nx, .string Fx, .string Vx]) := Lib.hid (by rw [hNx, hFx, hVx]; exact hKz.out.rangeAt (hrows'.out (k + 1) x hx) id)
                have hNxl : Hid (Nx.data.toList = x.name) := Lib.hid (by rw [hNx])
                have hx' := Lib.hid hx
                have l1 : IntKind.i64.wrap ((k : Int) + 1) = (k : Int) + 1 := IntWalk.i64_in _ (by omega)
                have l2 : (0 : Int) ≤ (k : Int) + 1 := by omega
                have l3 : (k : Int) + 1 < ls.length := by omega
                clear hNx hFx hVx hx hlast
                by_cases b1 : x.head = q.head
                · have f1 : (x.head != q.head) = false := by simp [b1]
                  have b1' := Lib.hid b1; clear b1
                  by_cases b2 : Nx.data.toList = N.data.toList
                  · have f2 := beq_list b2
                    have hf1 : lb = false := by rw [hlb'.out, hx'.out]; exact notdec_nil (lastC_yes b1'.out.symm (by rw [← hNxl.out, b2, hNl.out]))
                    have hf2 := Lib.hid hf1; clear hf1 b2
                    have r0 := hnext.out 0 _ rfl
                    have v0 := hBz.out.cell 0 _ rfl
                    simp only [Nat.add_zero] at r0
                    have r1 := hnext.out 1 _ rfl
                    have v1 := hBz.out.cell 1 _ rfl
                    go_quiet (fail)
                    have hB6 := Lib.hid (hBz.out.keep ((Keeps.refl (fun _ => False) _).drewN nq) id)
                    have hK6 := Lib.hid (hKz.out.drewN nq)
                    clear r0 v0 r1 v1
                    go_wp2_with fail
                    go_meet
                    case rel => exact ⟨by rw [hf2.out], hK6⟩
                  · have f2 := bne_list b2
                    have hf1 : lb = true := by rw [hlb'.out, hx'.out]; exact notdec_cons (b := [125]) (lastC_no (fun e => b2 (by rw [hNxl.out, hNl.out, e.2])))
                    have hf2 := Lib.hid hf1; clear hf1 b2
                    have r0 := hnext.out 0 _ rfl
                    have v0 := hBz.out.cell 0 _ rfl
                    simp only [Nat.add_zero] at r0
                    have r1 := hnext.out 1 _ rfl
                    have v1 := hBz.out.cell 1 _ rfl
                    go_quiet (fail)
                    have hB7 := Lib.hid (hBz.out.keep ((Keeps.refl (fun _ => False) _).drewN nq) id)
                    have hK7 := Lib.hid (hKz.out.drewN nq)
                    clear r0 v0 r1 v1
                    go_wp2_with fail
                    go_meet
                    case rel => exact ⟨by rw [hf2.out], hK7⟩
                · have f1 : (x.head != q.head) = true := by simp [b1]
                  have hf1 : lb = true := by rw [hlb'.out, hx'.out]; exact notdec_cons (b := [125]) (lastC_no (fun e => b1 e.1.symm))
                  have hf2 := Lib.hid hf1; clear hf1 b1
                  have r0 := hnext.out 0 _ rfl
                  have v0 := hBz.out.cell 0 _ rfl
                  simp only [Nat.add_zero] at r0
                  go_quiet (fail)
                  have hB8 := Lib.hid (hBz.out.keep ((Keeps.refl (fun _ => False) _).drewN nq) id)
                  have hK8 := Lib.hid (hKz.out.drewN nq)
                  clear r0 v0
                  go_wp2_with fail
                  go_meet
                  case rel => exact ⟨by rw [hf2.out], hK8⟩
            case rest =>
              obtain ⟨rfl, hKe⟩ := hcut
              clear hBz hKz hwn
              generalize wc = We at hKe ⊢
              cases lb with
              | false =>
                have hln : lastC q (ls[k + 1]?) = [] := by have := hlb'.out; simpa using this
                have hfin : Hid ((S2 ++ ⟨#[32, 32]⟩ ++ F ++ ⟨#[32]⟩ ++ V ++ ⟨#[59, 10]⟩).data.toList = textK ls (k + 1)) := Lib.hid (by rw [hstep.out]; unfold pieceC; rw [if_neg a0'.out, hln, ← hwl.out]; simp [hS2.out])
                clear hln hlb'
                go_wp2_with fail
                exact ⟨⟨k + 1, _, by omega, by go_num, rfl, hfin, hKe⟩, by simp [intOf]; omega⟩
              | true =>
                have hln : lastC q (ls[k + 1]?) = [125, 10] := by
                  have h : ¬ lastC q (ls[k + 1]?) = [] := by have := hlb'.out; simpa using this
                  unfold lastC at h ⊢
                  split
                  · split
                    · rename_i a b; simp only [a] at h; rw [if_pos b] at h; exact absurd rfl h
                    · rfl
                  · rfl
                have hfin : Hid ((S2 ++ ⟨#[32, 32]⟩ ++ F ++ ⟨#[32]⟩ ++ V ++ ⟨#[59, 10]⟩ ++ ⟨#[125, 10]⟩).data.toList = textK ls (k + 1)) := Lib.hid (by rw [hstep.out]; unfold pieceC; rw [if_neg a0'.out, hln, ← hwl.out]; simp [hS2.out])
                clear hln hlb'
                go_wp2_with fail
                exact ⟨⟨k + 1, _, by omega, by go_num, rfl, hfin, hKe⟩, by simp [intOf]; omega⟩
    · obtain rfl : k = ls.length := by omega
      have hTS : Hid (S = T) := Lib.hid (by rw [hT.out]; exact ba_of' hS.out)
      go_wp2_with fail
      go_ret
      exact ⟨by rw [← hTS.out]; rfl, k2'.out.trans hKr.out⟩
end Go.Proofs.YtljfeefhlbgopaaDoor
/- ParseAgain, walked. -/
set_option linter.unusedVariables false
set_option linter.unusedSimpArgs false
namespace Go.Proofs.YtljfeefhlbgopaaDoor
open Go.RowKit

def singles (l : List LineD) : List UInt8 := l.flatMap (fun q => textK [q] 1)
def singlesT (l : List LineD) : List (List UInt8) := l.flatMap (fun q => textT [q] 1)
theorem singles_lx {l : List LineD} (h : ∀ q ∈ l, lineB q = true) : Lx (singles l) (singlesT l) := by
  induction l with
  | nil => exact Lx.nil
  | cons q l ih =>
    have e1 : singles (q :: l) = textK [q] 1 ++ singles l := by unfold singles; simp
    have e2 : singlesT (q :: l) = textT [q] 1 ++ singlesT l := by unfold singlesT; simp
    rw [e1, e2]
    exact (text_lx (fun x hx => by simp at hx; subst hx; exact h _ (List.mem_cons_self ..)) 1).app (ih (fun x hx => h x (List.mem_cons_of_mem _ hx)))
theorem singles_set {l : List LineD} (h : ∀ q ∈ l, lineB q = true) : ∀ (r : List (List UInt8)) (s : StP), textD none (singlesT l ++ r) s = textD none r (l.foldl putS s) := by
  induction l with
  | nil => intro r s; rfl
  | cons q l ih =>
    intro r s
    have e2 : singlesT (q :: l) = textT [q] 1 ++ singlesT l := by unfold singlesT; simp
    have h1 := text_whole (ls := [q]) (fun x hx => by simp at hx; subst hx; exact h _ (List.mem_cons_self ..)) (singlesT l ++ r) s
    rw [e2, List.append_assoc]
    exact h1.trans (ih (fun x hx => h x (List.mem_cons_of_mem _ hx)) _ _)
def rotL (c : List LineD) (m : Nat) : List LineD := c.drop m ++ c.take m
theorem rot_perm (c : List LineD) (m : Nat) : (rotL c m).Perm c := by
  unfold rotL
  have := List.perm_append_comm (l₁ := c.drop m) (l₂ := c.take m)
  rwa [List.take_append_drop] at this
theorem rot_len (c : List LineD) (m : Nat) : (rotL c m).length = c.length := (rot_perm c m).length_eq
theorem rot_get {c : List LineD} {t i : Nat} (hi : i < c.length) : (rotL c (t % c.length))[i]? = c[(i + t) % c.length]? := by
  have hm : t % c.length < c.length := Nat.mod_lt _ (by omega)
  have hk : (i + t) % c.length = (i + t % c.length) % c.length := by simp
  rw [hk]
  generalize t % c.length = m at hm
  unfold rotL
  by_cases h : i < c.length - m
  · rw [List.getElem?_append_left (by rw [List.length_drop]; exact h), List.getElem?_drop, Nat.mod_eq_of_lt (by omega), Nat.add_comm]
  · rw [List.getElem?_append_right (by rw [List.length_drop]; omega), List.length_drop, List.getElem?_take, if_pos (by omega)]
    have : (i + m) % c.length = i + m - c.length := by
      rw [Nat.mod_eq_sub_mod (by omega), Nat.mod_eq_of_lt (by omega)]
    rw [this]
    congr 1
    omega
theorem again_ok {c : List LineD} (hr : rightC c = true) : ansT (textK c c.length) = (c, 0) := by
  have hl := (text_lx (right_line hr) c.length).ok
  refine ansT_ok hl ?_
  have := text_whole (right_line hr) [] ([], false)
  rw [List.append_nil] at this
  rw [this, fold_perm hr (List.Perm.refl c)]
  exact textD_nil _
theorem turned_ok {c l : List LineD} (hr : rightC c = true) (hp : l.Perm c) : ansT (singles l) = (c, 0) := by
  have hB : ∀ q ∈ l, lineB q = true := fun q hq => right_line hr q (hp.mem_iff.1 hq)
  refine ansT_ok (singles_lx hB).ok ?_
  have := singles_set hB [] ([], false)
  rw [List.append_nil] at this
  rw [this, fold_perm hr hp]
  exact textD_nil _
theorem right_one {q : LineD} (h : lineB q = true) : rightC [q] = true := right_of (fun l hl => by simp at hl; subst hl; exact h) trivial (by simp)
theorem singles_snoc (l : List LineD) (q : LineD) : singles (l ++ [q]) = singles l ++ textK [q] 1 := by unfold singles; simp
theorem singles_take {l : List LineD} {i : Nat} {q : LineD} (h : l[i]? = some q) : singles (l.take (i + 1)) = singles (l.take i) ++ textK [q] 1 := by
  rw [List.take_add_one, h]; exact singles_snoc _ _
theorem row_of_blk {W : World} {g : Nat} {h : Int} {N F V : ByteArray} {c : Nat} (hc : 1 ≤ c) (hb : BlkAt W g 37 [.int .i64 h, .string N, .string F, .string V]) : RowsAt 4 lineVals W (.slice (some ⟨g, 0, none⟩) 1 c) [⟨h, N.data.toList, F.data.toList, V.data.toList⟩] :=
  ⟨_, _, rfl, (fun e => by cases e), hc, fun _ => ⟨g, 0, rfl, fun i x hx => by
    cases i with
    | zero =>
      simp at hx; subst hx
      rw [Nat.zero_mul, Nat.add_zero]
      exact hb.range
    | succ i => simp at hx⟩⟩
theorem u64_natb (n : Int) : ∃ U : Nat, IntKind.u64.wrap n = (U : Int) := by
  refine ⟨(n % 18446744073709551616).toNat, ?_⟩
  have e : IntKind.u64.wrap n = n % 18446744073709551616 := by
    unfold IntKind.wrap
    have h1 : IntKind.u64.signed = false := rfl
    have h2 : (2 : Int) ^ IntKind.u64.bits = 18446744073709551616 := rfl
    simp [h1, h2]
  rw [e]; omega

set_option maxRecDepth 100000 in
set_option maxHeartbeats 16000000 in
theorem parseAgain_law (v : Value) (ls : List LineD) (d0 : Int) (w : World) (hv : Hid (RowsAt 4 lineVals w v ls)) (hl : ls.length ≤ 1000000000000) (hlt : Hid (LinesLt ls 8796093022000)) (ht : Hid (VerbsOk w)) :
    Calls Tryd.prog 4 #[v, .int .i64 d0] w (lawEnd w) := by
  go_enter Tryd.func4, Tryd.ntmps4
  go_wp2_with fail
  refine (build_any _ ls _ hv hl hlt).mono ?_
  rintro e w1 ⟨p1, c1, rfl, hO1, k1⟩
  have hR1 := Lib.hid (hO1.at lineVals_len)
  have hr := Lib.hid (build_right ls)
  generalize buildC ls = C at hR1 hr hO1 ⊢
  have hk1 := Lib.hid k1
  clear hO1 k1 hv hlt
  have hlen := right_len hr.out
  obtain ⟨T, hT0⟩ : ∃ T : ByteArray, T = ⟨(textK C C.length).toArray⟩ := ⟨_, rfl⟩
  have hT := Lib.hid hT0
  have hTs : T.size ≤ 30000 := by
    have h1 := textK_len (fun q hq => line_small (right_line hr.out q hq)) C.length
    rw [hT0]; show (textK C C.length).length ≤ _; omega
  have hans : Hid (ansT T.data.toList = (C, 0)) := Lib.hid (by rw [hT0]; exact again_ok hr.out)
  clear hT0
  go_wp2_with fail
  refine (rText_c _ C T _ hR1 hr hT).mono ?_
  rintro e w2 ⟨rfl, k2⟩
  have hR2 := Lib.hid (hR1.out.keep k2)
  have hk2 := Lib.hid (hk1.out.trans k2)
  clear k2 hR1 hk1
  go_wp2_with fail
  refine (pText_any T _ (by omega)).mono ?_
  rintro e w3 hp3
  rw [hans.out] at hp3
  obtain ⟨p3, c3, rfl, hD3, k3⟩ := hp3
  simp only [show ((0 : Nat) : Int) = 0 from rfl] at hD3 ⊢
  have hD3' := Lib.hid hD3
  have hR3 := Lib.hid (hR2.out.keep k3)
  have hk3 := Lib.hid (hk2.out.trans k3)
  clear k3 hD3 hR2 hk2
  obtain ⟨U, hU⟩ := u64_natb d0
  obtain ⟨t, ht0⟩ : ∃ t : Nat, (U : Int) % 64 = (t : Int) ∧ t < 64 := ⟨U % 64, by omega, by omega⟩
  obtain ⟨htt, ht64⟩ := ht0
  have hw1 : IntKind.i64.wrap (t : Int) = (t : Int) := IntWalk.i64_in _ (by omega)
  go_wp2_with fail
  go_loopw [10, 9] (fun iv ov wr => ∃ (i : Nat) (S : ByteArray), i ≤ C.length ∧ iv = .int .i64 i ∧ ov = .string S ∧ S.size ≤ 400 * i ∧ Hid (S.data.toList = singles ((rotL C (t % C.length)).take i)) ∧ Hid (Keeps (fun _ => False) w3 wr)) (fun iv _ _ => C.length - (intOf iv).toNat)
  case atStart => exact ⟨0, ⟨#[]⟩, by omega, rfl, rfl, by decide, Lib.hid rfl, Lib.hid (Keeps.refl _ _)⟩
  case round =>
    obtain ⟨i, S, hi, rfl, rfl, hSs, hSd, hKr⟩ := hrel
    obtain ⟨pc, cc, hpc⟩ := hR3.out.slice
    injection hpc with hpc1 hpc2 hpc3
    subst hpc1; subst hpc3
    clear hpc2
    by_cases hil : i < C.length
    · obtain ⟨g, o, rfl, hrows⟩ := hR3.out.open (by omega)
      obtain ⟨kk, hkk⟩ : ∃ kk, (i + t) % C.length = kk := ⟨_, rfl⟩
      have hkl : kk < C.length := by rw [← hkk]; exact Nat.mod_lt _ (by omega)
      have hkm : ((i : Int) + (t : Int)).tmod (C.length : Int) = (kk : Int) := by
        rw [← hkk]
        have : ((i : Int) + (t : Int)) = ((i + t : Nat) : Int) := by omega
        rw [this]; rfl
      obtain ⟨q, hq⟩ : ∃ q, C[kk]? = some q := ⟨_, List.getElem?_eq_getElem hkl⟩
      have hqB := right_line hr.out q (List.mem_of_getElem? hq)
      have hrg : Hid ((rotL C (t % C.length))[i]? = some q) := Lib.hid (by rw [rot_get hil, hkk]; exact hq)
      obtain ⟨N, hN⟩ : ∃ N : ByteArray, N = ⟨q.name.toArray⟩ := ⟨_, rfl⟩
      obtain ⟨F, hF⟩ : ∃ N : ByteArray, N = ⟨q.leaf.toArray⟩ := ⟨_, rfl⟩
      obtain ⟨V, hV⟩ : ∃ N : ByteArray, N = ⟨q.value.toArray⟩ := ⟨_, rfl⟩
      have hrow : Hid (wr.rangeAt g (o + kk * 4) [.int .i64 q.head, .string N, .string F, .string V]) := Lib.hid (by rw [hN, hF, hV]; exact hKr.out.rangeAt (hrows kk q hq) id)
      have hqd : Hid (q = ⟨q.head, N.data.toList, F.data.toList, V.data.toList⟩) := Lib.hid (by rw [hN, hF, hV])
      have hw2 : IntKind.i64.wrap ((i : Int) + (t : Int)) = (i : Int) + (t : Int) := IntWalk.i64_in _ (by omega)
      have hnz : ¬ (C.length : Int) = 0 := by omega
      have hk0 : (0 : Int) ≤ (kk : Int) := by omega
      have hk9 : (kk : Int) < (C.length : Int) := by omega
      have hil2 : (i : Int) < (C.length : Int) := by omega
      have hqs := line_small hqB
      have hB' := Lib.hid hqB
      obtain ⟨T2, hT20⟩ : ∃ T2 : ByteArray, T2 = ⟨(textK [q] 1).toArray⟩ := ⟨_, rfl⟩
      have hT2s : T2.size ≤ 400 := by
        have h1 := textK_len (ls := [q]) (fun x hx => by simp at hx; subst hx; exact hqs) 1
        rw [hT20]; show (textK [q] 1).length ≤ _; omega
      have hT2 : Hid (T2 = ⟨(textK [(⟨q.head, N.data.toList, F.data.toList, V.data.toList⟩ : LineD)] ([(⟨q.head, N.data.toList, F.data.toList, V.data.toList⟩ : LineD)]).length).toArray⟩) := Lib.hid (by rw [← hqd.out]; exact hT20)
      have hT2d : Hid (T2.data.toList = textK [q] 1) := Lib.hid (by rw [hT20])
      have hone : Hid (rightC [(⟨q.head, N.data.toList, F.data.toList, V.data.toList⟩ : LineD)] = true) := Lib.hid (by rw [← hqd.out]; exact right_one hqB)
      clear hrows hN hF hV hq hqB hT20 hkk hqs
      have hBx : Hid (BlkAt (wr.alloc (.cells #[.int .i64 q.head, .string N, .string F, .string V] 37)) wr.heap.size 37 [.int .i64 q.head, .string N, .string F, .string V]) := Lib.hid (BlkAt.new _ _ _)
      have hkx := Lib.hid (hKr.out.alloc (.cells #[.int .i64 q.head, .string N, .string F, .string V] 37))
      go_upto_region 9 with (first | ((with_reducible refine at_slot 40 ?_); refine wpList_load_mid rfl 37 (.tmp 39) rfl g (o + kk * 4) rfl [.int .i64 q.head, .string N, .string F, .string V] _ hrow.out Tryd.underlying37 rfl line5InfoG ?_) | ((with_reducible refine at_store 11 ?_); refine wpList_store_new rfl 37 (.tmp 11) (.tmp 40) rfl _ #[.int .i64 q.head, .string N, .string F, .string V] rfl rfl line5InfoG rfl (line_one _ _ _ _) ?_))
      generalize hgx : wr.heap.size = gx at hBx ⊢
      generalize wr.alloc (.cells #[.int .i64 q.head, .string N, .string F, .string V] 37) = Wx at hBx hkx ⊢
      clear hgx hrow hKr
      have hrw := Lib.hid (row_of_blk (Nat.le_refl 1) (BlkAt.new Wx 37 [.int .i64 q.head, .string N, .string F, .string V]))
      have hky := Lib.hid (hkx.out.alloc (.cells #[.int .i64 q.head, .string N, .string F, .string V] 37))
      go_wp2_with ((with_reducible refine at_slot 42 ?_); refine wpList_load_mid rfl 37 (.tmp 11) rfl gx 0 rfl [.int .i64 q.head, .string N, .string F, .string V] _ hBx.out.range Tryd.underlying37 rfl line5InfoG ?_)
      refine (rText_c _ _ T2 _ hrw hone hT2).mono ?_
      rintro e w5 ⟨rfl, k5⟩
      have hk5 := Lib.hid (hky.out.trans k5)
      clear k5 hky hkx hBx hrw
      have hss : S.size + T2.size ≤ 30000 := by omega
      have hnext : Hid ((S ++ T2).data.toList = singles ((rotL C (t % C.length)).take (i + 1))) := Lib.hid (by rw [singles_take hrg.out, ← hSd.out, ← hT2d.out]; simp)
      have hnl : (S ++ T2).size ≤ 400 * (i + 1) := by rw [ByteArray.size_append]; omega
      go_wp2_with fail
      exact ⟨⟨i + 1, S ++ T2, by omega, by go_num, rfl, hnl, hnext, hk5⟩, by simp [intOf]; omega⟩
    · obtain rfl : i = C.length := by omega
      have hans2 : Hid (ansT S.data.toList = (C, 0)) := Lib.hid (by
        rw [hSd.out, List.take_of_length_le (by rw [rot_len]; exact Nat.le_refl _)]
        exact turned_ok hr.out (rot_perm _ _))
      have hD4 := Lib.hid (hD3'.out.keep hKr.out)
      have hR4 := Lib.hid (hR3.out.keep hKr.out)
      have hk4 := Lib.hid (hk3.out.trans hKr.out)
      clear hSd hKr hD3' hR3 hk3
      go_wp2_with fail
      refine (pText_any S _ (by omega)).mono ?_
      rintro e w5 hp5
      rw [hans2.out] at hp5
      obtain ⟨p5, c5, rfl, hE5, k5⟩ := hp5
      simp only at hE5 ⊢
      have hE5' := Lib.hid hE5
      have hD5 := Lib.hid (hD4.out.keep k5)
      have hR5 := Lib.hid (hR4.out.keep k5)
      have hk5 := Lib.hid (hk4.out.trans k5)
      have ht5 := Lib.hid (ht.out.keep hk5.out)
      clear k5 hE5 hD4 hR4 hk4
      go_wp2_with fail
      refine (reads6_any _ ht5).mono ?_
      rintro e w6 ⟨rfl, k6⟩
      have hE6 := Lib.hid (hE5'.out.keep k6)
      have hD6 := Lib.hid (hD5.out.keep k6)
      have hR6 := Lib.hid (hR5.out.keep k6)
      have hk6 := Lib.hid (hk5.out.trans k6)
      clear k6 hE5' hD5 hR5 hk5 ht5
      go_wp2_with fail
      refine (from_any _ C _ hD6 (by omega)).mono ?_
      rintro e w7 ⟨p7, c7, rfl, hO7, k7⟩
      have hA7 := Lib.hid (hO7.at lineVals_len)
      have hE7 := Lib.hid (hE6.out.keep k7)
      have hR7 := Lib.hid (hR6.out.keep k7)
      have hk7 := Lib.hid (hk6.out.trans k7)
      clear k7 hO7 hE6 hD6 hR6 hk6
      go_wp2_with fail
      refine (rSame_c _ _ C C true _ hA7 hR7 (by omega) (by omega) (Lib.hid ⟨fun _ => rfl, fun _ => rfl⟩)).mono ?_
      rintro e w8 ⟨rfl, k8⟩
      have hE8 := Lib.hid (hE7.out.keep k8)
      have hR8 := Lib.hid (hR7.out.keep k8)
      have hk8 := Lib.hid (hk7.out.trans k8)
      clear k8 hA7 hE7 hR7 hk7
      go_wp2_with fail
      refine (from_any _ C _ hE8 (by omega)).mono ?_
      rintro e w9 ⟨p9, c9, rfl, hO9, k9⟩
      have hA9 := Lib.hid (hO9.at lineVals_len)
      have hR9 := Lib.hid (hR8.out.keep k9)
      have hk9 := Lib.hid (hk8.out.trans k9)
      clear k9 hO9 hE8 hR8 hk8
      go_wp2_with fail
      refine (rSame_c _ _ C C true _ hA9 hR9 (by omega) (by omega) (Lib.hid ⟨fun _ => rfl, fun _ => rfl⟩)).mono ?_
      rintro e w10 ⟨rfl, k10⟩
      have hk10 := Lib.hid (hk9.out.trans k10)
      clear k10 hk9 hA9 hR9
      go_wp2_with fail
      go_ret
      exact lawEnd.mk hk10.out
end Go.Proofs.YtljfeefhlbgopaaDoor
/- Lines of the document that came in, of a bulk that is bounded (CGL, for the door seat). -/
set_option linter.unusedVariables false
set_option linter.unusedSimpArgs false
namespace Go.Proofs.YtljfeefhlbgopaaDoor
open Go.ChangeShapes Go.WideShapes Go.ChangeAt Go.RowKit Go.Deep

theorem bulk_part {H : Type} {d : DataW H} {l : List (DataW H)} (h : d ∈ l) : Rows.uptoBulk d ≤ Rows.uptoBulkAll l := by
  induction l with
  | nil => cases h
  | cons x r ih =>
    simp only [Rows.uptoBulkAll]
    rcases List.mem_cons.1 h with e | e
    · subst e; omega
    · have := ih e; omega
theorem bulk_len {H : Type} (l : List (DataW H)) : l.length ≤ Rows.uptoBulkAll l := by
  induction l with
  | nil => simp [Rows.uptoBulkAll]
  | cons x r ih =>
    have h1 : 1 ≤ Rows.uptoBulk x := by
      cases x with
      | lit l => cases l <;> simp [Rows.uptoBulk]
      | _ => simp [Rows.uptoBulk]
    simp only [Rows.uptoBulkAll, List.length_cons]; omega
theorem listX4 {α : Type} {l : List α} (h : l.length = 4) : ∃ a b c d, l = [a, b, c, d] := by
  match l, h with
  | [a, b, c, d], _ => exact ⟨a, b, c, d, rfl⟩
theorem cxInt : Tryd.prog.cellsOf 3 = 1 := by kernel_rfl
theorem cxStr : Tryd.prog.cellsOf 9 = 1 := by kernel_rfl
theorem cxLine : Tryd.prog.cellsOf 37 = 4 := by kernel_rfl
theorem choose_l {α : Type} (n : Nat) (P : Nat → α → Prop) (h : ∀ i, i < n → ∃ a, P i a) : ∃ l : List α, l.length = n ∧ ∀ i a, l[i]? = some a → P i a := by
  induction n with
  | zero => exact ⟨[], rfl, fun i a e => by simp at e⟩
  | succ n ih =>
    obtain ⟨l, hl, hP⟩ := ih (fun i hi => h i (by omega))
    obtain ⟨a, ha⟩ := h n (by omega)
    refine ⟨l ++ [a], by simp [hl], fun i b e => ?_⟩
    by_cases hi : i < l.length
    · rw [List.getElem?_append_left hi] at e; exact hP i b e
    · rw [List.getElem?_append_right (by omega)] at e
      have : i = n := by have := (List.getElem?_eq_some_iff.1 e).1; simp at this; omega
      subst this
      rw [hl, Nat.sub_self] at e
      injection e with e; subst e; exact ha
section
variable {H : Type} {enc : TypeId × Value → H} {W : World}
set_option maxRecDepth 100000 in
theorem line_came {fuel : Nat} {cs : List Value} {x : DataW H × List MemPlace} {M : Nat} (hl : cs.length = 4) (h : DataW.trod enc Tryd.prog W 0 (fun _ => true) true fuel 37 cs = some x) (hM : Rows.uptoBulk x.1 ≤ M) :
    ∃ l : LineD, (l.name.length ≤ M ∧ l.leaf.length ≤ M ∧ l.value.length ≤ M) ∧ cs = lineVals l := by
  obtain ⟨c0, c1, c2, c3, rfl⟩ := listX4 hl
  obtain ⟨xs, n, -, hx, -, hlen, hf⟩ := DataW.trod_struct Tryd.underlying37 h
  obtain ⟨y0, y1, y2, y3, rfl⟩ := listX4 hlen
  have f0 : DataW.trod enc Tryd.prog W 0 (fun _ => true) true n 3 ((([c0, c1, c2, c3] : List Value).drop 0).take (Tryd.prog.cellsOf 3)) = some y0 := hf 0 _ rfl
  rw [cxInt] at f0
  have f1 : DataW.trod enc Tryd.prog W 0 (fun _ => true) true n 9 ((([c0, c1, c2, c3] : List Value).drop 1).take (Tryd.prog.cellsOf 9)) = some y1 := hf 1 _ rfl
  rw [cxStr] at f1
  have f2 : DataW.trod enc Tryd.prog W 0 (fun _ => true) true n 9 ((([c0, c1, c2, c3] : List Value).drop 2).take (Tryd.prog.cellsOf 9)) = some y2 := hf 2 _ rfl
  rw [cxStr] at f2
  have f3 : DataW.trod enc Tryd.prog W 0 (fun _ => true) true n 9 ((([c0, c1, c2, c3] : List Value).drop 3).take (Tryd.prog.cellsOf 9)) = some y3 := hf 3 _ rfl
  rw [cxStr] at f3
  obtain ⟨n0, e0, -, w0⟩ := DataW.trod_int Tryd.underlying3 f0
  obtain ⟨N, e1, r1, -⟩ := DataW.trod_string Tryd.underlying9 f1
  obtain ⟨F, e2, r2, -⟩ := DataW.trod_string Tryd.underlying9 f2
  obtain ⟨V, e3, r3, -⟩ := DataW.trod_string Tryd.underlying9 f3
  injection e0 with e0 _; injection e1 with e1 _; injection e2 with e2 _; injection e3 with e3 _
  subst e0; subst e1; subst e2; subst e3
  subst r1; subst r2; subst r3
  subst hx
  simp only [List.map_cons, List.map_nil, Rows.uptoBulk, Rows.uptoBulkAll] at hM
  exact ⟨⟨n0, N.data.toList, F.data.toList, V.data.toList⟩, ⟨by show N.data.toList.length ≤ M; omega, by show F.data.toList.length ≤ M; omega, by show V.data.toList.length ≤ M; omega⟩, rfl⟩
theorem lines_came {fuel : Nat} {x0 : Value} {x : DataW H × List MemPlace} {M : Nat} (h : DataW.trod enc Tryd.prog W 0 (fun _ => true) true fuel 27 [x0] = some x) (hM : Rows.uptoBulk x.1 ≤ M) :
    ∃ (ls : List LineD) (p : Option Addr) (c : Nat), x0 = .slice p ls.length c ∧ RowsAt 4 lineVals W (.slice p ls.length c) ls ∧ LinesLt ls M ∧ ls.length ≤ M := by
  rcases Go.Deep.open_slice Tryd.underlying27 h with ⟨hcs, -⟩ | ⟨a, len, cap, m, n, D, Pl, hcs, -, hlc, hm, hmm, hx, hall⟩
  · injection hcs with hcs _; subst hcs
    exact ⟨[], none, 0, rfl, RowsAt.nil _, (fun l hl => by cases hl), by simp⟩
  · injection hcs with hcs _; subst hcs
    simp only [if_true] at hmm
    subst hmm
    subst hx
    simp only [Rows.uptoBulk] at hM
    have hex : ∀ i, i < len → ∃ l : LineD, (l.name.length ≤ M ∧ l.leaf.length ≤ M ∧ l.value.length ≤ M) ∧ ∀ j, j < 4 → W.cell? ((a.add (i * 4)).add j) = (lineVals l)[j]? := fun i hi => by
      obtain ⟨cs', h1, h2⟩ := hall i (by omega)
      rw [cxLine] at h1
      obtain ⟨-, hl, hc⟩ := World.cells?_some h1
      obtain ⟨l, hok, rfl⟩ := line_came (M := M) hl h2 (Nat.le_trans (bulk_part (List.mem_map.2 ⟨i, List.mem_range.2 hi, rfl⟩)) (by omega))
      exact ⟨l, hok, hc⟩
    have hlenM : len ≤ M := by
      have h1 := bulk_len ((List.range len).map D)
      rw [List.length_map, List.length_range] at h1
      omega
    obtain ⟨ls, hlen2, hls⟩ := choose_l len _ hex
    refine ⟨ls, some a, m, by rw [hlen2], ⟨some a, m, rfl, (fun e => nomatch e), by rw [hlen2]; exact hlc, fun h0 => ?_⟩, fun l hl => ?_, by rw [hlen2]; exact hlenM⟩
    · obtain ⟨b, o, s⟩ := a
      have h00 := (hls 0 ls[0] (List.getElem?_eq_getElem h0)).2 0 (by omega)
      have hsn : s = none := by simpa [Addr.add] using World.cell?_spot (h00.trans (show (lineVals ls[0])[0]? = some (.int .i64 ls[0].head) from rfl))
      subst hsn
      refine ⟨b, o, rfl, fun i l hl j u hu => ?_⟩
      have hj : j < 4 := by have := (List.getElem?_eq_some_iff.1 hu).1; simpa [lineVals] using this
      have := (hls i l hl).2 j hj
      rw [hu, Addr.add_mid, Addr.add_mid] at this
      exact this
    · obtain ⟨i, hi, rfl⟩ := List.mem_iff_getElem.1 hl
      exact (hls i _ (List.getElem?_eq_getElem hi)).1
end
end Go.Proofs.YtljfeefhlbgopaaDoor
/- ParseAgain, proved in its second form: the text of each configuration is read as it; with its parts in another order, too; for every input whose bulk is at most 1048576. Its card lists the words of commands as the code's text lays them. -/
set_option linter.unusedVariables false
namespace Go.Proofs.YtljfeefhlbgopaaDoor
open Go.ChangeShapes Go.WideShapes Go.ChangeAt Go.RowKit Go.WideMaps Go.Deep
open Go.ChangeMaps (open_string)
/-- an array of texts that reads as these texts holds them, cell for cell -/
theorem strs_of_laid {H : Type} {enc : TypeId × Value → H} {P : Program} {w : World} {base : Nat} {sp : Nat → Bool} {held : Bool} {fuel : Nat} {t e : TypeId} {n : Nat} {cs : List Value} {ls : List (List UInt8)} {p : List MemPlace}
    (ht : P.underlying t = some (.array n e)) (he : P.underlying e = some .string) (hce : P.cellsOf e = 1) (hct : P.cellsOf t = n)
    (h : DataW.trod enc P w base sp held fuel t cs = some (.agg (ls.map fun l => .lit (.string l)), p)) : cs = ls.map strv := by
  cases fuel with
  | zero => simp [DataW.trod] at h
  | succ fuel =>
    simp only [DataW.trod, ht, hce, hct, Nat.mul_one] at h
    split at h
    · rename_i hl
      obtain ⟨xs, hm, hx⟩ := Option.map_eq_some_iff.1 h
      have hxs : xs.map (·.1) = ls.map fun l => (DataW.lit (.string l) : DataW H) := by
        have := congrArg Prod.fst hx
        simpa using this
      have hxl : xs.length = n := by simpa using Lib.mapM_length hm
      have hzl : ls.length = n := by
        have := congrArg List.length hxs
        simp at this
        omega
      apply List.ext_getElem?
      intro i
      by_cases hi : i < n
      · obtain ⟨b, hb, hf⟩ := Lib.mapM_at hm i i (by simp [hi])
        obtain ⟨z, hc, rfl, _⟩ := DataW.trod_string he hf
        have h1 : cs[i]? = some (.string z) := by
          have := congrArg (·[0]?) hc
          simpa [List.getElem?_take, List.getElem?_drop] using this
        have h2 : (xs.map (·.1))[i]? = some (DataW.lit (.string z.data.toList) : DataW H) := by simp [hb]
        rw [hxs] at h2
        simp only [List.getElem?_map, Option.map_eq_some_iff, DataW.lit.injEq, Lit.string.injEq] at h2
        obtain ⟨z', hz', e'⟩ := h2
        rw [h1, List.getElem?_map, hz', e']
        rfl
      · rw [List.getElem?_eq_none (by omega), List.getElem?_eq_none (by simp; omega)]
    · cases h
section
variable {H : Type} {enc : TypeId × Value → H}
/-- a specification with a condition of its own, and one more word about the memory -/
theorem returns_of_cond_and {a : Assume} {C : Checked} {os : Os} {f : FuncId} {fn : Func} {s : OpenSpec} {k : (H : Type) → List (DataW H) → Bool} (hk : s.cond = some k) {F : Stop.Interp} {conds : List PathCond} {apart fresh handsOn again : Bool} {X : World → Array Value → Prop}
    (hX : ∀ (w w' : World) (args : Array Value), w.heap = w'.heap → X w args → X w' args)
    (own : ownKnob C.prog.godebug = none) (started : os.Started) (noInit : C.prog.inits.idxOf? f = none) (hfn : C.prog.funcs[f]? = some fn)
    (witness : ∃ (w : World) (tape : Tape) (i : Input), w.os = os ∧ (w.forCall tape i).Shaped C.prog ∧ i.vars = [] ∧ Input.okWide C.prog (w.forCall tape i) .any w.heap.size f i ∧
      ((s.pre enc C.prog fn conds apart (w.forCall tape i).memory i.args ∧ X (w.forCall tape i).memory i.args) ∧ sizedMet enc C.prog fn s apart (w.forCall tape i).memory i.args) ∧ a.holds C.prog (lone (Frame.enter C.prog f i.args .normal) [] (w.forCall tape i)))
    (contract : ∀ (W : World) (base : Nat) (args : Array Value) (ds gs : List (DataW H)) (before : List MemPlace),
      (∀ (j : Nat) t v, fn.params[j]? = some t → args[j]? = some v → Value.okWide C.prog W .any base t v) →
      DataW.Whole enc C.prog fn.params.toList s.vars apart W args.toList ds gs before →
      k H (ds ++ gs) = true → X W args →
      Calls C.prog f args W fun e W' => ∃ v, e = .returned v ∧ (s.at F).post enc C.prog fn apart fresh handsOn again W args v W') :
    ReturnsInHanded a C os f .any (fun w args => (s.pre enc C.prog fn conds apart w args ∧ X w args) ∧ sizedMet enc C.prog fn s apart w args) ((s.at F).post enc C.prog fn apart fresh handsOn again) := by
  refine returnsInHanded_of_calls own started noInit witness ?_
  intro w tape i _ _ _ hok hpre hholds
  obtain ⟨_, _, _, fn', hfn', _, _, _, _, hval⟩ := hok
  have e : fn' = fn := Option.some.inj (hfn'.symm.trans hfn)
  subst e
  obtain ⟨⟨hp0, hx⟩, hz⟩ := hpre
  obtain ⟨ds, gs, before, hw, _, hkk⟩ := (OpenSpec.pre_some hk conds apart _ _).1 hp0
  have hw' := DataW.Whole.of_heap (w' := w.forCall tape i) (by rfl) hw
  refine (contract (w.forCall tape i) w.heap.size i.args ds gs before hval hw' hkk (hX _ _ _ (by rfl) hx)).mono fun e W' ⟨v, he, hp⟩ => ?_
  subst he
  exact ChangeSpec.post_blind hp
theorem witness_shaped_cond {C : Checked} {os : Os} {f : FuncId} {fn : Func} {s : OpenSpec} {k : (H : Type) → List (DataW H) → Bool} (hk : s.cond = some k) {conds : List PathCond} {apart : Bool} {X : World → Array Value → Prop} (modest : Bool) (w0 : World) (args : Array Value) (fuel : Nat) (hos : w0.os = os)
    (hsh : (w0.forCall (fun _ _ => 0) ⟨#[], args, []⟩).Shaped C.prog)
    (hok : Input.okWideB C.prog (w0.forCall (fun _ _ => 0) ⟨#[], args, []⟩) f ⟨#[], args, []⟩ = true)
    {x : List (DataW H) × List (DataW H) × List MemPlace} (hx : DataW.whole enc C.prog (w0.forCall (fun _ _ => 0) ⟨#[], args, []⟩).memory fn.params.toList s.vars apart args.toList fuel = some x)
    (hconds : conds.all (PathCond.test C.prog ⟨fn.params.toList, x.1, s.bare.plain.varTypes C.prog, x.2.1⟩) = true) (hkk : k H (x.1 ++ x.2.1) = true)
    (hsz : s.bare.sizedB enc C.prog fn apart (w0.forCall (fun _ _ => 0) ⟨#[], args, []⟩).memory args fuel = true)
    (hX : X (w0.forCall (fun _ _ => 0) ⟨#[], args, []⟩).memory args) :
    ∃ (w : World) (tape : Tape) (i : Input), w.os = os ∧ (w.forCall tape i).Shaped C.prog ∧ i.vars = [] ∧ Input.okWide C.prog (w.forCall tape i) .any w.heap.size f i ∧
      ((s.pre enc C.prog fn conds apart (w.forCall tape i).memory i.args ∧ X (w.forCall tape i).memory i.args) ∧ sizedMet enc C.prog fn s apart (w.forCall tape i).memory i.args) ∧ ({ modest := modest } : Assume).holds C.prog (lone (Frame.enter C.prog f i.args .normal) [] (w.forCall tape i)) :=
  ⟨w0, fun _ _ => 0, ⟨#[], args, []⟩, hos, hsh, (Input.okWide_of_okWideB (base := 0) hok).1, (Input.okWide_of_okWideB hok).2, ⟨⟨(OpenSpec.pre_some hk conds apart _ _).2 ⟨x.1, x.2.1, x.2.2, DataW.Whole_of_whole hx, hconds, hkk⟩, hX⟩, sizedMet_of_sizedB hsz⟩, by
    simp only [Assume.holds]
    exact ⟨by simp, by simp, fun _ => Modest.zero, by simp, by simp⟩⟩
end
namespace parseAgainProof
theorem own : ownKnob Tryd.prog.godebug = none := by kernel_rfl
theorem laidOut : laidOutB Tryd.prog = true := by kernel_rfl
def laid3 : List (String × DataW Unit) := Rows.parseAgainRow.laid
theorem door_met (os : Os) (args : Array Value) : laidMetH Tryd.prog laid3 ((World.doorLaid Tryd.prog 4000 os).forCall (fun _ _ => 0) ⟨#[], args, []⟩).memory := by
  rw [MakeChecks.laidMetH_plain _ _ _ (by kernel_rfl)]
  exact laidMet_of_run' 8 (by kernel_rfl) (by kernel_rfl)
theorem verbs_of {W : World} (h : laidMetH Tryd.prog laid3 W) : VerbsOk W := by
  rw [MakeChecks.laidMetH_plain _ _ _ (by kernel_rfl)] at h
  obtain ⟨ps, ⟨g0, t0, cs0, f0, p0, q0, hg0, ht0, hv0, hd0, _, _⟩, _, _⟩ := h
  have hN : Tryd.prog.globalNamed "waystone/parse.verbs" = some 0 := by kernel_rfl
  have hT : (Tryd.prog.globals[(0 : Nat)]?).map (·.type) = some 92 := by kernel_rfl
  obtain rfl := Option.some.inj (hN.symm.trans hg0)
  obtain rfl := Option.some.inj (hT.symm.trans ht0)
  have e2 : (Rows.laid_waystone_parse_verbs : DataW Unit) = .agg (verbsL.map fun l => .lit (.string l)) := by kernel_rfl
  rw [e2] at hd0
  have hcs := strs_of_laid Tryd.underlying92 Tryd.underlying9 (by kernel_rfl) (by kernel_rfl) hd0
  intro j v hv
  rw [World.var?_cell hN hv0, Nat.zero_add, ← Array.getElem?_toList, hcs]
  exact hv
theorem bound {H : Type} {l : List (DataW H)} (hk : Rows.uptoSmall H l = true) : Rows.uptoBulkAll l ≤ 1048576 := by
  simpa [Rows.uptoSmall] using hk
set_option maxRecDepth 100000 in
theorem contract (H : Type) (enc : TypeId × Value → H) (W : World) (base : Nat) (args : Array Value) (ds gs : List (DataW H)) (before : List MemPlace)
    (hval : ∀ (j : Nat) t v, Tryd.f4.params[j]? = some t → args[j]? = some v → Value.okWide Tryd.prog W .any base t v)
    (hW : DataW.Whole enc Tryd.prog Tryd.f4.params.toList Rows.parseAgainSpec.vars false W args.toList ds gs before) (hk : Rows.uptoSmall H (ds ++ gs) = true) (hL : laidMetH Tryd.prog laid3 W) :
    Calls Tryd.prog 4 args W fun e W' => ∃ v, e = .returned v ∧ Rows.parseAgainSpec.post enc Tryd.prog Tryd.f4 false true false false W args v W' := by
  have hW' := hW
  obtain ⟨p, q, hA0, hV, rfl, hfz, hnd⟩ := hW
  have hA : DataW.TrodAll enc Tryd.prog W 0 (fun _ => true) true Tryd.f4.params.toList args.toList ds p := hA0
  rw [Tryd.params4] at hA hval
  obtain ⟨v0, vs0, d0, ds0, p0, q0, hargs, rfl, rfl, h0, r0⟩ := trodAll_cons hA
  obtain ⟨v1, vs1, d1, ds1, p1, q1, rfl, rfl, rfl, h1, r1⟩ := trodAll_cons r0
  obtain ⟨rfl, rfl, rfl⟩ := trodAll_nil r1
  obtain rfl : args = #[v0, v1] := by cases args; simp_all
  obtain ⟨rfl, rfl⟩ := trodVars_none hV
  have k0 := h0
  have k1 := h1
  have hb := bound hk
  simp only [List.append_nil, Rows.uptoBulkAll] at hb
  have lt0 : ∀ x ∈ p0, x.block < W.heap.size := by obtain ⟨m, hm⟩ := k0; exact DataW.trod_lt m _ _ _ hm
  have lt1 : ∀ x ∈ p1, x.block < W.heap.size := by obtain ⟨m, hm⟩ := k1; exact DataW.trod_lt m _ _ _ hm
  obtain ⟨sa, sl, sc, rfl⟩ := okWide_slice Tryd.underlying27 (hval 0 27 v0 rfl rfl)
  obtain ⟨m0, hm0⟩ := h0
  obtain ⟨ls, pz, cz, hvz, hrows, hlt, hlen⟩ := lines_came (M := 1048576) (show DataW.trod enc Tryd.prog W 0 (fun _ => true) true m0 27 [.slice sa sl sc] = some (d0, p0) from hm0) (by simp only; omega)
  rw [hvz] at hW' k0 hA0 ⊢
  obtain ⟨xa1, rfl, rfl, rfl, wf1⟩ := open_int Tryd.underlying3 (hval 1 3 v1 rfl rfl) h1
  simp [Lit.wf, IntKind.min, IntKind.max, IntKind.signed, IntKind.bits] at wf1
  clear hA0
  simp only [List.append_nil] at hW'
  refine (parseAgain_law _ ls xa1 W (Lib.hid hrows) (by omega) (Lib.hid (fun l hl => by have := hlt l hl; omega)) (Lib.hid (verbs_of hL))).mono fun e W' ⟨he, bel⟩ => ?_
  subst he
  exact ⟨_, rfl, _, _, _, [], _, [], hW', trodAll_mk1 (shut_bool Tryd.underlying4 _), (trodAll_cons_mk (Below.trod laidOut (by kernel_rfl) (of_decide_eq_true (by kernel_rfl)) k0 bel lt0) (trodAll_cons_mk (Below.trod laidOut (by kernel_rfl) (of_decide_eq_true (by kernel_rfl)) k1 bel lt1) trodAll_mk0)), rfl, bel.frame _, fun h => by cases h⟩
set_option maxRecDepth 100000 in
theorem lifted (os : Os) (started : os.Started) (H : Type) (enc : TypeId × Value → H) (F : Stop.Interp) :
    ReturnsInHanded {} Tryd.checked os 4 .any (fun w args => ((Rows.OpenSpec.upto Rows.parseAgainSpec).pre enc Tryd.prog Tryd.f4 [] false w args ∧ laidMetH Tryd.prog laid3 w) ∧ sizedMet enc Tryd.prog Tryd.f4 (Rows.OpenSpec.upto Rows.parseAgainSpec) false w args)
      (((Rows.OpenSpec.upto Rows.parseAgainSpec).at F).post enc Tryd.prog Tryd.f4 false true false false) := by
  refine returns_of_cond_and (C := Tryd.checked) (s := Rows.OpenSpec.upto Rows.parseAgainSpec) (k := Rows.uptoSmall) rfl (X := fun w _ => laidMetH Tryd.prog laid3 w) (fun _ _ _ hh h => h.of_heap hh) own started (by kernel_rfl) Tryd.func4
    (witness_shaped_cond (enc := enc) (C := Tryd.checked) (os := os) (s := Rows.OpenSpec.upto Rows.parseAgainSpec) (k := Rows.uptoSmall) rfl (X := fun w _ => laidMetH Tryd.prog laid3 w) false (World.doorLaid Tryd.prog 4000 os) #[.slice none 0 0, .int .i64 0] 8 rfl (World.shaped_of_RefB (by kernel_rfl) (by kernel_rfl)) (by kernel_rfl)
      (x := ([.nil, .lit (.int .i64 0)], [], [])) (by kernel_rfl) rfl (by kernel_rfl) (by kernel_rfl) (door_met os _)) ?_
  intro W base args ds gs before hval hW hk hL
  exact contract H enc W base args ds gs before hval hW hk hL
theorem over : Rows.parseAgainUptoRow.holds Tryd.pinned (Rows.OpenSpec.upto Rows.parseAgainSpec) :=
  OpenClaim.holds_of_cond 4 Tryd.f4 rfl rfl rfl rfl rfl rfl rfl ⟨rfl, rfl, rfl, rfl, rfl⟩ rfl rfl rfl rfl rfl (by kernel_rfl) Tryd.func4 (by kernel_rfl)
    (of_decide_eq_true (by kernel_rfl)) (by unfold Func.isWrapper; first | (rw [if_pos (by decide +kernel)]; kernel_rfl) | (rw [if_neg (by decide +kernel)]; exact ⟨rfl, rfl⟩))
    (fun os started H enc _ F => lifted os started H enc F)
end parseAgainProof
theorem parseAgainUpto_holds : Rows.ParseAgainUptoCardSaid :=
  Claim7.holds_tied_plain_at .later [] [.data] true (true, "33f86c9207a1d2f41ad96c38ae52b6d50d350da286d7b892a9f5355784c83f41") false
    parseAgainProof.over (fun _ h => by cases h) (by kernel_rfl) (fun _ h => by cases h) parseAgainUpto_row_tie rfl ⟨rfl, rfl⟩ (by kernel_rfl) rfl
    (fun f fn hf hfn => by
      obtain rfl : f = 4 := Option.some.inj ((show Tryd.prog.funcNamed "waystone/waystonelaw06.ParseAgain" = some 4 by kernel_rfl).symm.trans hf) |>.symm
      obtain rfl : fn = Tryd.f4 := (Option.some.inj (Tryd.func4.symm.trans hfn)).symm
      exact ⟨by kernel_rfl, fun j t ht => by
        rw [Tryd.params4] at ht
        match j, ht with
        | 0, ht => (obtain rfl : t = 27 := by simpa using ht.symm); exact (show Tryd.prog.wantsStandIn 27 = false by kernel_rfl)
        | 1, ht => (obtain rfl : t = 3 := by simpa using ht.symm); exact (show Tryd.prog.wantsStandIn 3 = false by kernel_rfl)
        | j + 2, ht => simp at ht⟩)
    (by kernel_rfl)
end Go.Proofs.YtljfeefhlbgopaaDoor
