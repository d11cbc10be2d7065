/- The document's Set of a wrong line; the law's Build, walked (gen_cgf.py). -/
import Derived.Test.YtdjmhjgfjbcdkaaCGD
import Derived.Test.YtdjmhjgfjbcdkaaCGE
set_option linter.unusedVariables false
set_option linter.unusedSimpArgs false
namespace Go.Proofs.Ytdjmhjgfjbcdkaa
open Go.RowKit

set_option maxRecDepth 100000 in
set_option maxHeartbeats 4000000 in
theorem rSet_no (v : Value) (ls : List LineD) (h : Int) (N F V : ByteArray) (w : World) (hv : Hid (RowsAt 4 lineVals w v ls)) (hlt : Hid (LinesLt ls 8796093022000)) (hn : N.size ≤ 8796093022000) (hvs : V.size ≤ 8796093022000)
    (hlen : ls.length ≤ 64) (hr : Hid (rightC ls = true)) (hx : Hid (lineB ⟨h, N.data.toList, F.data.toList, V.data.toList⟩ = false)) :
    Calls Try.prog 14 #[v, .agg #[.int .i64 h, .string N, .string F, .string V]] w (NewRes (.tuple #[.slice none 0 0, .int .i64 1]) w) := by
  obtain ⟨p, c, rfl⟩ := hv.out.slice
  have hLn := Lib.hid hv.out.lines
  have hB : Hid (BlkAt (w.alloc (.cells #[.int .i64 h, .string N, .string F, .string V] 28)) w.heap.size 28 [.int .i64 h, .string N, .string F, .string V]) := Lib.hid (BlkAt.new _ _ _)
  have hK0 : Hid (Keeps (fun _ => False) w (w.alloc (.cells #[.int .i64 h, .string N, .string F, .string V] 28))) := Lib.hid ((Keeps.refl _ _).alloc _)
  go_enter Try.func14, Try.ntmps14
  go_upto_region 1 with fail
  generalize w.alloc (.cells #[.int .i64 h, .string N, .string F, .string V] 28) = w1 at hB hK0 ⊢
  generalize hgb : w.heap.size = gb at hB ⊢
  clear hgb
  go_wp2_with fail
  refine (rRight_c _ ls true _ (Lib.hid (hLn.out.keep hK0.out (fun _ _ _ f => f))) (by omega) hlt hr).mono ?_
  rintro e w2 ⟨rfl, k2⟩
  have k2' := Lib.hid k2
  clear k2
  have hB2 := Lib.hid (hB.out.keep k2'.out id)
  go_wp2_with ((with_reducible refine at_slot 13 ?_); refine wpList_load_mid_g (by rfl) 28 (.tmp 3) rfl gb 0 rfl [.int .i64 h, .string N, .string F, .string V] _ hB2.out.range Try.underlying28 rfl line5InfoG ?_)
  refine (rRightLine_any h N F V false _ hn hvs hx).mono ?_
  rintro e w3 ⟨rfl, k3⟩
  have hK3 := Lib.hid (hK0.out.trans (k2'.out.trans k3))
  clear k3 k2' hB hB2 hK0 hLn
  go_wp2_with fail
  go_ret2
  exact ⟨rfl, hK3.out⟩

def bK (ls : List LineD) (k : Nat) : List LineD := (ls.take k).foldl stepB []
theorem bK_step {q : LineD} {ls : List LineD} {k : Nat} (hq : ls[k]? = some q) : bK ls (k + 1) = stepB (bK ls k) q := by
  obtain ⟨hk, e⟩ := List.getElem?_eq_some_iff.1 hq
  unfold bK
  rw [List.take_succ_eq_append_getElem hk, e, List.foldl_append]; rfl
theorem bK_right (ls : List LineD) (k : Nat) : rightC (bK ls k) = true := fold_right _ _ (by decide +kernel)

set_option maxRecDepth 100000 in
set_option maxHeartbeats 4000000 in
theorem build_any (v : Value) (ls : List LineD) (w : World) (hv : Hid (RowsAt 4 lineVals w v ls)) (hl : ls.length ≤ 1000000000000) (hlt : Hid (LinesLt ls 8796093022000)) :
    Calls Try.prog 31 #[v] w (CopyPost 28 (buildC ls) w) := by
  obtain ⟨p, c, rfl⟩ := hv.out.slice
  go_enter Try.func31, Try.ntmps31
  go_wp2_with fail
  go_loopw [4, 3] (fun iv cv wr => ∃ (k : Nat) (q : Option Addr) (d : Nat), k ≤ ls.length ∧ k ≤ 100 ∧ iv = .int .i64 k ∧ cv = .slice q (bK ls k).length d ∧ Hid (OwnR 28 4 lineVals w wr cv (bK ls k)) ∧ Hid (Keeps (fun _ => False) w wr)) (fun iv _ _ => 100 - (intOf iv).toNat)
  case atStart => exact ⟨0, none, 0, by omega, by omega, rfl, rfl, Lib.hid (OwnR.nil _ _ (Nat.le_refl _)), Lib.hid (Keeps.refl _ _)⟩
  case round =>
    obtain ⟨k, qa, d, hk, hk2, rfl, rfl, hO, hKw⟩ := hrel
    have hbr := Lib.hid (bK_right ls k)
    generalize hbk : bK ls k = B at hO hbr ⊢
    have hbk' := Lib.hid hbk
    clear hbk
    by_cases hlk : k < ls.length
    · by_cases h100 : k < 100
      · obtain ⟨g, o, rfl, hrows⟩ := hv.out.open (by omega)
        obtain ⟨q, hq⟩ : ∃ q, ls[k]? = some q := ⟨_, List.getElem?_eq_getElem hlk⟩
        have hsz := hlt.out q (List.mem_of_getElem? hq)
        obtain ⟨Nq, hN⟩ : ∃ N : ByteArray, N = ⟨q.name.toArray⟩ := ⟨_, rfl⟩
        obtain ⟨Fq, hF⟩ : ∃ N : ByteArray, N = ⟨q.leaf.toArray⟩ := ⟨_, rfl⟩
        obtain ⟨Vq, hV⟩ : ∃ N : ByteArray, N = ⟨q.value.toArray⟩ := ⟨_, rfl⟩
        have hNs : Nq.size ≤ 8796093022000 := by rw [hN]; exact hsz.1
        have hVs : Vq.size ≤ 8796093022000 := by rw [hV]; exact hsz.2.2
        have hrow : Hid (wr.rangeAt g (o + k * 4) [.int .i64 q.head, .string Nq, .string Fq, .string Vq]) := Lib.hid (by rw [hN, hF, hV]; exact hKw.out.rangeAt (hrows k q hq) id)
        have hqd : Hid (q = ⟨q.head, Nq.data.toList, Fq.data.toList, Vq.data.toList⟩) := Lib.hid (by rw [hN, hF, hV])
        have hstep := Lib.hid (bK_step hq)
        rw [hbk'.out] at hstep
        have m1 : (0 : Int) ≤ (k : Int) := by omega
        have m2 : (k : Int) < (ls.length : Int) := by omega
        have hR : Hid (RowsAt 4 lineVals wr (.slice qa B.length d) B) := Lib.hid (hO.out.at lineVals_len)
        have hB64 := right_len hbr.out
        have hBlt := Lib.hid (right_lt hbr.out 8796093022000 (by omega))
        clear hrows hN hF hV hq hsz
        go_wp2_with ((with_reducible refine at_slot 22 ?_); refine wpList_load_mid rfl 28 (.tmp 21) rfl g (o + k * 4) rfl [.int .i64 q.head, .string Nq, .string Fq, .string Vq] _ hrow.out Try.underlying28 rfl line5InfoG ?_)
        cases hz : lineB ⟨q.head, Nq.data.toList, Fq.data.toList, Vq.data.toList⟩ with
        | false =>
          have hz' := Lib.hid hz
          have hsame : Hid (bK ls (k + 1) = B) := Lib.hid (by rw [hstep.out]; unfold stepB; rw [if_neg]; rw [hqd.out, hz]; simp)
          clear hz
          refine (rSet_no _ B q.head Nq Fq Vq wr hR hBlt hNs hVs hB64 hbr hz').mono ?_
          rintro e w3 ⟨rfl, k3⟩
          have hO3 := Lib.hid (hO.out.keep k3 (fun _ _ f => f))
          have hK3 := Lib.hid (hKw.out.trans k3)
          clear k3
          go_wp2_with fail
          exact ⟨⟨k + 1, qa, d, by omega, by omega, by go_num, by rw [hsame.out], by rw [hsame.out]; exact hO3, hK3⟩, by simp [intOf]; omega⟩
        | true =>
          have hz' := Lib.hid hz
          clear hz
          refine (rSet_c _ B q.head Nq Fq Vq wr hR hBlt hNs hVs hB64 hbr hz').mono ?_
          rintro e w3 ⟨p1, p2, k3⟩
          rw [← hqd.out] at p1 p2
          have hK3 := Lib.hid (hKw.out.trans k3)
          by_cases h65 : (setC q B).length ≤ 64
          · obtain ⟨q3, d3, rfl, hO3⟩ := p1 h65
            have hsame : Hid (bK ls (k + 1) = setC q B) := Lib.hid (by rw [hstep.out]; unfold stepB; rw [if_pos]; exact ⟨by rw [hqd.out]; exact hz'.out, h65⟩)
            have hO3' := Lib.hid (hO3.older (w0 := w) hKw.out.size)
            clear hO3 k3 p1 p2 h65
            go_wp2_with fail
            exact ⟨⟨k + 1, q3, d3, by omega, by omega, by go_num, by rw [hsame.out], by rw [hsame.out]; exact hO3', hK3⟩, by simp [intOf]; omega⟩
          · obtain rfl := p2 (by omega)
            have hsame : Hid (bK ls (k + 1) = B) := Lib.hid (by rw [hstep.out]; unfold stepB; rw [if_neg]; exact fun e => h65 e.2)
            have hO3 := Lib.hid (hO.out.keep k3 (fun _ _ f => f))
            clear k3 p1 p2 h65
            go_wp2_with fail
            exact ⟨⟨k + 1, qa, d, by omega, by omega, by go_num, by rw [hsame.out], by rw [hsame.out]; exact hO3, hK3⟩, by simp [intOf]; omega⟩
      · obtain rfl : k = 100 := by omega
        have hend : Hid (buildC ls = B) := Lib.hid (by rw [← hbk'.out]; rfl)
        clear h100 hk2
        go_wp2_with fail
        go_ret
        rw [hend.out]
        exact ⟨qa, d, rfl, hO.out, hKw.out⟩
    · obtain rfl : k = ls.length := by omega
      have hend : Hid (buildC ls = B) := Lib.hid (by
        rw [← hbk'.out]; unfold buildC bK
        rw [List.take_of_length_le hk2, List.take_length])
      go_wp2_with fail
      go_ret
      rw [hend.out]
      exact ⟨qa, d, rfl, hO.out, hKw.out⟩
end Go.Proofs.Ytdjmhjgfjbcdkaa
