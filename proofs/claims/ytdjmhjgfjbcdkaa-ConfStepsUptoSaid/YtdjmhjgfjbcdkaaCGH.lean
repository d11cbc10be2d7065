/- Delete, the code's and the document's, of a right configuration (gen_cgh.py). -/
import Derived.Test.YtdjmhjgfjbcdkaaCGF
set_option linter.unusedVariables false
set_option linter.unusedSimpArgs false
namespace Go.Proofs.Ytdjmhjgfjbcdkaa
open Go.RowKit

def keepB (h : Int) (n l : List UInt8) (q : LineD) : Bool := decide (q.head ≠ h) || decide (q.name ≠ n) || (decide (l ≠ []) && decide (q.leaf ≠ l))
def delC (h : Int) (n l : List UInt8) (ls : List LineD) : List LineD := ls.filter (keepB h n l)
def dK (h : Int) (n l : List UInt8) (ls : List LineD) (k : Nat) : List LineD := (ls.take k).filter (keepB h n l)
theorem dK_step {h : Int} {n l : List UInt8} {q : LineD} {ls : List LineD} {k : Nat} (hq : ls[k]? = some q) : dK h n l ls (k + 1) = dK h n l ls k ++ (if keepB h n l q = true then [q] else []) := by
  obtain ⟨hk, e⟩ := List.getElem?_eq_some_iff.1 hq
  unfold dK
  rw [List.take_succ_eq_append_getElem hk, e, List.filter_append]
  congr 1
  simp [List.filter_cons]
theorem dK_len (h : Int) (n l : List UInt8) (ls : List LineD) (k : Nat) : (dK h n l ls k).length ≤ k := by
  have h1 := List.length_filter_le (keepB h n l) (ls.take k)
  rw [List.length_take] at h1
  unfold dK
  omega
def DelPost (t : TypeId) (zs : List LineD) (n : Nat) (w : World) (e : Ending) (w' : World) : Prop :=
  (zs.length = n → e = .returned (.tuple #[.slice none 0 0, .int .i64 6])) ∧ (zs.length ≠ n → ∃ p c, e = .returned (.tuple #[.slice p zs.length c, .int .i64 0]) ∧ OwnR t 4 lineVals w w' (.slice p zs.length c) zs) ∧ Keeps (fun _ => False) w w'
theorem bne_list {a b : ByteArray} (h : a.data.toList ≠ b.data.toList) : (a.toList == b.toList) = false := by rw [Lib.toList_data, Lib.toList_data]; simpa using h
theorem beq_list {a b : ByteArray} (h : a.data.toList = b.data.toList) : (a.toList == b.toList) = true := by rw [Lib.toList_data, Lib.toList_data]; simpa using h
theorem empty_list {a : ByteArray} (h : a.data.toList = []) : a.toList.isEmpty = true := by rw [Lib.toList_data, h]; rfl
theorem nonempty_list {a : ByteArray} (h : a.data.toList ≠ []) : a.toList.isEmpty = false := by rw [Lib.toList_data]; cases hh : a.data.toList with | nil => exact absurd hh h | cons => rfl

set_option maxRecDepth 100000 in
set_option maxHeartbeats 8000000 in
theorem del_c (v : Value) (ls : List LineD) (h : Int) (N L : ByteArray) (w : World) (hv : Hid (RowsAt 4 lineVals w v ls)) (hlt : Hid (LinesLt ls 9223372036854775807)) (hlen : ls.length ≤ 64) (hr : Hid (rightC ls = true)) :
    Calls Try.prog 9 #[v, .int .i64 h, .string N, .string L] w (DelPost 36 (delC h N.data.toList L.data.toList ls) ls.length w) := by
  obtain ⟨p, c, rfl⟩ := hv.out.slice
  obtain ⟨i0, hi0, hi1, hi2, hi3⟩ := lineAll
  have hLn := Lib.hid hv.out.lines
  go_enter Try.func9, Try.ntmps9
  go_wp2_with fail
  refine (right_c _ ls true _ hLn (by omega) hlt hr).mono ?_
  rintro e w2 ⟨rfl, k2⟩
  have hK2 := Lib.hid k2
  have hv2 := Lib.hid (hv.out.keep k2)
  clear k2 hLn hlt hr
  go_wp2_with fail
  go_loopw [18, 10] (fun iv ov wr => ∃ (k : Nat) (q : Option Addr) (d : Nat), k ≤ ls.length ∧ iv = .int .i64 k ∧ ov = .slice q (dK h N.data.toList L.data.toList ls k).length d ∧ Hid (OwnR 36 4 lineVals w2 wr ov (dK h N.data.toList L.data.toList ls k)) ∧ Hid (Keeps (fun _ => False) w2 wr)) (fun iv _ _ => ls.length - (intOf iv).toNat)
  case atStart => exact ⟨0, none, 0, by omega, rfl, rfl, Lib.hid (OwnR.nil _ _ (Nat.le_refl _)), Lib.hid (Keeps.refl _ _)⟩
  case round =>
    obtain ⟨k, qa, d, hk, rfl, rfl, hO, hKw⟩ := hrel
    have hdl := dK_len h N.data.toList L.data.toList ls k
    generalize hdk : dK h N.data.toList L.data.toList ls k = D at hO hdl ⊢
    have hdk' := Lib.hid hdk
    clear hdk
    by_cases hlk : k < ls.length
    · obtain ⟨g, o, rfl, hrows⟩ := hv2.out.open (by omega)
      obtain ⟨q, hq⟩ : ∃ q, ls[k]? = some q := ⟨_, List.getElem?_eq_getElem hlk⟩
      obtain ⟨Nq, hN⟩ : ∃ N : ByteArray, N = ⟨q.name.toArray⟩ := ⟨_, rfl⟩
      obtain ⟨Fq, hF⟩ : ∃ N : ByteArray, N = ⟨q.leaf.toArray⟩ := ⟨_, rfl⟩
      obtain ⟨Vq, hV⟩ : ∃ N : ByteArray, N = ⟨q.value.toArray⟩ := ⟨_, rfl⟩
      have hrow : Hid (wr.rangeAt g (o + k * 4) [.int .i64 q.head, .string Nq, .string Fq, .string Vq]) := Lib.hid (by rw [hN, hF, hV]; exact hKw.out.rangeAt (hrows k q hq) id)
      have hqd : Hid (q = ⟨q.head, Nq.data.toList, Fq.data.toList, Vq.data.toList⟩) := Lib.hid (by rw [hN, hF, hV])
      have hstep := Lib.hid (dK_step (h := h) (n := N.data.toList) (l := L.data.toList) hq)
      rw [hdk'.out] at hstep
      have hdl' := Lib.hid hdl
      have m1 : (0 : Int) ≤ (k : Int) := by omega
      have m2 : (k : Int) < (ls.length : Int) := by omega
      clear hrows hN hF hV hq hdl hdk'
      have hBx : Hid (BlkAt (wr.alloc (.cells #[.int .i64 q.head, .string Nq, .string Fq, .string Vq] 36)) wr.heap.size 36 [.int .i64 q.head, .string Nq, .string Fq, .string Vq]) := Lib.hid (BlkAt.new _ _ _)
      have hkx : Hid (Keeps (fun _ => False) w2 (wr.alloc (.cells #[.int .i64 q.head, .string Nq, .string Fq, .string Vq] 36))) := Lib.hid (hKw.out.alloc _)
      have hOx : Hid (OwnR 36 4 lineVals w2 (wr.alloc (.cells #[.int .i64 q.head, .string Nq, .string Fq, .string Vq] 36)) (.slice qa D.length d) D) := Lib.hid (hO.out.keep ((Keeps.refl (fun _ => False) _).alloc _) (fun _ _ f => f))
      go_upto_region 7 with (first | ((with_reducible refine at_slot 21 ?_); refine wpList_load_mid rfl 36 (.tmp 20) rfl g (o + k * 4) rfl [.int .i64 q.head, .string Nq, .string Fq, .string Vq] _ hrow.out Try.underlying36 rfl lineInfo ?_) | ((with_reducible refine at_store 12 ?_); refine wpList_store_new rfl 36 (.tmp 12) (.tmp 21) rfl _ #[.int .i64 q.head, .string Nq, .string Fq, .string Vq] rfl rfl lineInfo rfl (line_one _ _ _ _) ?_))
      generalize hgx : wr.heap.size = gx at hBx ⊢
      generalize hWx : wr.alloc (.cells #[.int .i64 q.head, .string Nq, .string Fq, .string Vq] 36) = W0 at hBx hkx hOx ⊢
      clear hgx hWx hO hKw hrow
      have c0 := hBx.out.cell 0 _ rfl
      have c1 := hBx.out.cell 1 _ rfl
      have c2 := hBx.out.cell 2 _ rfl
      by_cases a1 : q.head = h
      · have e1 : (q.head != h) = false := by simp [a1]
        have a1' := Lib.hid a1; clear a1
        by_cases a2 : Nq.data.toList = N.data.toList
        · have e2 := beq_list a2
          have a2' := Lib.hid a2; clear a2
          by_cases a3 : L.data.toList = []
          · have e3 := empty_list a3
            have a3' := Lib.hid a3; clear a3
            have hsame : Hid (dK h N.data.toList L.data.toList ls (k + 1) = D) := Lib.hid (by
              rw [hstep.out, if_neg, List.append_nil]
              rw [hqd.out]; unfold keepB; simp [a1'.out, a2'.out, a3'.out])
            go_wp2_with fail
            refine ⟨⟨k + 1, qa, d, by omega, by go_num, by rw [hsame.out], by rw [hsame.out]; exact hOx, hkx⟩, by simp [intOf]; omega⟩
          · have e3 := nonempty_list a3
            have a3' := Lib.hid a3; clear a3
            by_cases a4 : Fq.data.toList = L.data.toList
            · have e4 := beq_list a4
              have a4' := Lib.hid a4; clear a4
              have hsame : Hid (dK h N.data.toList L.data.toList ls (k + 1) = D) := Lib.hid (by
                rw [hstep.out, if_neg, List.append_nil]
                rw [hqd.out]; unfold keepB; simp [a1'.out, a2'.out, a4'.out])
              go_wp2_with fail
              refine ⟨⟨k + 1, qa, d, by omega, by go_num, by rw [hsame.out], by rw [hsame.out]; exact hOx, hkx⟩, by simp [intOf]; omega⟩
            · have e4 := bne_list a4
              have a4' := Lib.hid a4; clear a4
              have b4 : (Fq.data.toList ≠ L.data.toList) := a4'.out
              have b3 : (L.data.toList ≠ []) := a3'.out
              have hkk : Hid (keepB h N.data.toList L.data.toList ⟨q.head, Nq.data.toList, Fq.data.toList, Vq.data.toList⟩ = true) := Lib.hid (by unfold keepB; simp [b3, b4])
              clear b3 b4
              have hsame : Hid (dK h N.data.toList L.data.toList ls (k + 1) = D ++ [(⟨q.head, Nq.data.toList, Fq.data.toList, Vq.data.toList⟩ : LineD)]) := Lib.hid (by
                rw [hstep.out, if_pos, ← hqd.out]
                rw [hqd.out]; exact hkk.out)
              go_wp2_with (first | ((with_reducible refine at_slot 43 ?_); refine wpList_load_mid rfl 36 (.tmp 12) rfl gx 0 rfl [.int .i64 q.head, .string Nq, .string Fq, .string Vq] _ hBx.out.range Try.underlying36 rfl lineInfo ?_) | ((with_reducible refine at_slot 45 ?_); go_must (refine wpList_append_r rfl (.tmp 42) (.tmp 44) 25 36 rfl i0 _ 56 Try.underlying25 hi0 hi1 hi2 hi3 rfl (by decide) (by decide) lineVals_len w2 _ D.length D rfl rfl (hOx.out.keep ((Keeps.refl (fun _ => False) _).alloc _) (fun _ _ f => f)) _ rfl ⟨q.head, Nq.data.toList, Fq.data.toList, Vq.data.toList⟩ (cells_new rfl _ _) (lineVals_one _) (by have := hdl'.out; omega) ?_); intro q8 d8 w8 hO8 hg8))
              have hK8 := Lib.hid (OwnR.keeps (hOx.out.keep ((Keeps.refl (fun _ => False) _).alloc _) (fun _ _ f => f)) (hkx.out.alloc _) hg8.out)
              refine ⟨⟨k + 1, q8, d8, by omega, by go_num, by rw [hsame.out]; simp, by rw [hsame.out]; exact hO8, hK8⟩, by simp [intOf]; omega⟩
        · have e2 := bne_list a2
          have a2' := Lib.hid a2; clear a2
          have b4 : (Nq.data.toList ≠ N.data.toList) := a2'.out
          have hkk : Hid (keepB h N.data.toList L.data.toList ⟨q.head, Nq.data.toList, Fq.data.toList, Vq.data.toList⟩ = true) := Lib.hid (by unfold keepB; simp [b4])
          clear b4
          have hsame : Hid (dK h N.data.toList L.data.toList ls (k + 1) = D ++ [(⟨q.head, Nq.data.toList, Fq.data.toList, Vq.data.toList⟩ : LineD)]) := Lib.hid (by
            rw [hstep.out, if_pos, ← hqd.out]
            rw [hqd.out]; exact hkk.out)
          go_wp2_with (first | ((with_reducible refine at_slot 43 ?_); refine wpList_load_mid rfl 36 (.tmp 12) rfl gx 0 rfl [.int .i64 q.head, .string Nq, .string Fq, .string Vq] _ hBx.out.range Try.underlying36 rfl lineInfo ?_) | ((with_reducible refine at_slot 45 ?_); go_must (refine wpList_append_r rfl (.tmp 42) (.tmp 44) 25 36 rfl i0 _ 56 Try.underlying25 hi0 hi1 hi2 hi3 rfl (by decide) (by decide) lineVals_len w2 _ D.length D rfl rfl (hOx.out.keep ((Keeps.refl (fun _ => False) _).alloc _) (fun _ _ f => f)) _ rfl ⟨q.head, Nq.data.toList, Fq.data.toList, Vq.data.toList⟩ (cells_new rfl _ _) (lineVals_one _) (by have := hdl'.out; omega) ?_); intro q8 d8 w8 hO8 hg8))
          have hK8 := Lib.hid (OwnR.keeps (hOx.out.keep ((Keeps.refl (fun _ => False) _).alloc _) (fun _ _ f => f)) (hkx.out.alloc _) hg8.out)
          refine ⟨⟨k + 1, q8, d8, by omega, by go_num, by rw [hsame.out]; simp, by rw [hsame.out]; exact hO8, hK8⟩, by simp [intOf]; omega⟩
      · have e1 : (q.head != h) = true := by simp [a1]
        have hkk : Hid (keepB h N.data.toList L.data.toList ⟨q.head, Nq.data.toList, Fq.data.toList, Vq.data.toList⟩ = true) := Lib.hid (by unfold keepB; simp [a1])
        clear a1
        have hsame : Hid (dK h N.data.toList L.data.toList ls (k + 1) = D ++ [(⟨q.head, Nq.data.toList, Fq.data.toList, Vq.data.toList⟩ : LineD)]) := Lib.hid (by
          rw [hstep.out, if_pos, ← hqd.out]
          rw [hqd.out]; exact hkk.out)
        go_wp2_with (first | ((with_reducible refine at_slot 43 ?_); refine wpList_load_mid rfl 36 (.tmp 12) rfl gx 0 rfl [.int .i64 q.head, .string Nq, .string Fq, .string Vq] _ hBx.out.range Try.underlying36 rfl lineInfo ?_) | ((with_reducible refine at_slot 45 ?_); go_must (refine wpList_append_r rfl (.tmp 42) (.tmp 44) 25 36 rfl i0 _ 56 Try.underlying25 hi0 hi1 hi2 hi3 rfl (by decide) (by decide) lineVals_len w2 _ D.length D rfl rfl (hOx.out.keep ((Keeps.refl (fun _ => False) _).alloc _) (fun _ _ f => f)) _ rfl ⟨q.head, Nq.data.toList, Fq.data.toList, Vq.data.toList⟩ (cells_new rfl _ _) (lineVals_one _) (by have := hdl'.out; omega) ?_); intro q8 d8 w8 hO8 hg8))
        have hK8 := Lib.hid (OwnR.keeps (hOx.out.keep ((Keeps.refl (fun _ => False) _).alloc _) (fun _ _ f => f)) (hkx.out.alloc _) hg8.out)
        refine ⟨⟨k + 1, q8, d8, by omega, by go_num, by rw [hsame.out]; simp, by rw [hsame.out]; exact hO8, hK8⟩, by simp [intOf]; omega⟩
    · obtain rfl : k = ls.length := by omega
      have hend : Hid (delC h N.data.toList L.data.toList ls = D) := Lib.hid (by rw [← hdk'.out]; unfold delC dK; rw [List.take_length])
      clear hlk hk hdl
      by_cases hsz : D.length = ls.length
      · have e5 : ((D.length : Int) == ls.length) = true := by simp [hsz]
        have hsz' := Lib.hid hsz
        clear hsz
        go_wp2_with fail
        go_ret2
        rw [hend.out]
        exact ⟨fun _ => rfl, fun hh => absurd hsz'.out hh, hK2.out.trans hKw.out⟩
      · have e5 : ((D.length : Int) == ls.length) = false := by simp; omega
        have hsz' := Lib.hid hsz
        clear hsz
        go_wp2_with fail
        go_ret2
        rw [hend.out]
        exact ⟨fun hh => absurd hh hsz'.out, fun _ => ⟨qa, d, rfl, hO.out.older hK2.out.size⟩, hK2.out.trans hKw.out⟩

set_option maxRecDepth 100000 in
set_option maxHeartbeats 8000000 in
theorem rDel_c (v : Value) (ls : List LineD) (h : Int) (N L : ByteArray) (w : World) (hv : Hid (RowsAt 4 lineVals w v ls)) (hlt : Hid (LinesLt ls 8796093022000)) (hlen : ls.length ≤ 64) (hr : Hid (rightC ls = true)) :
    Calls Try.prog 10 #[v, .int .i64 h, .string N, .string L] w (DelPost 28 (delC h N.data.toList L.data.toList ls) ls.length w) := by
  obtain ⟨p, c, rfl⟩ := hv.out.slice
  obtain ⟨i0, hi0, hi1, hi2, hi3⟩ := line5All
  have hLn := Lib.hid hv.out.lines
  go_enter Try.func10, Try.ntmps10
  go_wp2_with fail
  refine (rRight_c _ ls true _ hLn (by omega) hlt hr).mono ?_
  rintro e w2 ⟨rfl, k2⟩
  have hK2 := Lib.hid k2
  have hv2 := Lib.hid (hv.out.keep k2)
  clear k2 hLn hlt hr
  go_wp2_with fail
  go_loopw [11, 10] (fun iv ov wr => ∃ (k : Nat) (q : Option Addr) (d : Nat), k ≤ ls.length ∧ iv = .int .i64 k ∧ ov = .slice q (dK h N.data.toList L.data.toList ls k).length d ∧ Hid (OwnR 28 4 lineVals w2 wr ov (dK h N.data.toList L.data.toList ls k)) ∧ Hid (Keeps (fun _ => False) w2 wr)) (fun iv _ _ => ls.length - (intOf iv).toNat)
  case atStart => exact ⟨0, none, 0, by omega, rfl, rfl, Lib.hid (OwnR.nil _ _ (Nat.le_refl _)), Lib.hid (Keeps.refl _ _)⟩
  case round =>
    obtain ⟨k, qa, d, hk, rfl, rfl, hO, hKw⟩ := hrel
    have hdl := dK_len h N.data.toList L.data.toList ls k
    generalize hdk : dK h N.data.toList L.data.toList ls k = D at hO hdl ⊢
    have hdk' := Lib.hid hdk
    clear hdk
    by_cases hlk : k < ls.length
    · obtain ⟨g, o, rfl, hrows⟩ := hv2.out.open (by omega)
      obtain ⟨q, hq⟩ : ∃ q, ls[k]? = some q := ⟨_, List.getElem?_eq_getElem hlk⟩
      obtain ⟨Nq, hN⟩ : ∃ N : ByteArray, N = ⟨q.name.toArray⟩ := ⟨_, rfl⟩
      obtain ⟨Fq, hF⟩ : ∃ N : ByteArray, N = ⟨q.leaf.toArray⟩ := ⟨_, rfl⟩
      obtain ⟨Vq, hV⟩ : ∃ N : ByteArray, N = ⟨q.value.toArray⟩ := ⟨_, rfl⟩
      have hrow : Hid (wr.rangeAt g (o + k * 4) [.int .i64 q.head, .string Nq, .string Fq, .string Vq]) := Lib.hid (by rw [hN, hF, hV]; exact hKw.out.rangeAt (hrows k q hq) id)
      have hqd : Hid (q = ⟨q.head, Nq.data.toList, Fq.data.toList, Vq.data.toList⟩) := Lib.hid (by rw [hN, hF, hV])
      have hstep := Lib.hid (dK_step (h := h) (n := N.data.toList) (l := L.data.toList) hq)
      rw [hdk'.out] at hstep
      have hdl' := Lib.hid hdl
      have m1 : (0 : Int) ≤ (k : Int) := by omega
      have m2 : (k : Int) < (ls.length : Int) := by omega
      clear hrows hN hF hV hq hdl hdk'
      have hkx := hKw
      have hOx := hO
      generalize wr = W0 at hkx hOx hrow ⊢
      have c0 : W0.cell? ⟨g, o + k * 4, none⟩ = some (.int .i64 q.head) := hrow.out 0 _ rfl
      have c1 : W0.cell? ⟨g, o + k * 4 + 1, none⟩ = some (.string Nq) := hrow.out 1 _ rfl
      have c2 : W0.cell? ⟨g, o + k * 4 + 2, none⟩ = some (.string Fq) := hrow.out 2 _ rfl
      clear hO hKw
      by_cases a1 : q.head = h
      · have e1 : (q.head != h) = false := by simp [a1]
        have a1' := Lib.hid a1; clear a1
        by_cases a2 : Nq.data.toList = N.data.toList
        · have e2 := beq_list a2
          have a2' := Lib.hid a2; clear a2
          by_cases a3 : L.data.toList = []
          · have e3 := empty_list a3
            have a3' := Lib.hid a3; clear a3
            have hsame : Hid (dK h N.data.toList L.data.toList ls (k + 1) = D) := Lib.hid (by
              rw [hstep.out, if_neg, List.append_nil]
              rw [hqd.out]; unfold keepB; simp [a1'.out, a2'.out, a3'.out])
            go_wp2_with fail
            refine ⟨⟨k + 1, qa, d, by omega, by go_num, by rw [hsame.out], by rw [hsame.out]; exact hOx, hkx⟩, by simp [intOf]; omega⟩
          · have e3 := nonempty_list a3
            have a3' := Lib.hid a3; clear a3
            by_cases a4 : Fq.data.toList = L.data.toList
            · have e4 := beq_list a4
              have a4' := Lib.hid a4; clear a4
              have hsame : Hid (dK h N.data.toList L.data.toList ls (k + 1) = D) := Lib.hid (by
                rw [hstep.out, if_neg, List.append_nil]
                rw [hqd.out]; unfold keepB; simp [a1'.out, a2'.out, a4'.out])
              go_wp2_with fail
              refine ⟨⟨k + 1, qa, d, by omega, by go_num, by rw [hsame.out], by rw [hsame.out]; exact hOx, hkx⟩, by simp [intOf]; omega⟩
            · have e4 := bne_list a4
              have a4' := Lib.hid a4; clear a4
              have b4 : (Fq.data.toList ≠ L.data.toList) := a4'.out
              have b3 : (L.data.toList ≠ []) := a3'.out
              have hkk : Hid (keepB h N.data.toList L.data.toList ⟨q.head, Nq.data.toList, Fq.data.toList, Vq.data.toList⟩ = true) := Lib.hid (by unfold keepB; simp [b3, b4])
              clear b3 b4
              have hsame : Hid (dK h N.data.toList L.data.toList ls (k + 1) = D ++ [(⟨q.head, Nq.data.toList, Fq.data.toList, Vq.data.toList⟩ : LineD)]) := Lib.hid (by
                rw [hstep.out, if_pos, ← hqd.out]
                rw [hqd.out]; exact hkk.out)
              go_wp2_with (first | ((with_reducible refine at_slot 54 ?_); refine wpList_load_mid rfl 28 (.tmp 53) rfl g (o + k * 4) rfl [.int .i64 q.head, .string Nq, .string Fq, .string Vq] _ hrow.out Try.underlying28 rfl line5InfoG ?_) | ((with_reducible refine at_slot 56 ?_); go_must (refine wpList_append_r rfl (.tmp 50) (.tmp 55) 22 28 rfl i0 _ 56 Try.underlying22 hi0 hi1 hi2 hi3 rfl (by decide) (by decide) lineVals_len w2 _ D.length D rfl rfl (hOx.out.keep ((Keeps.refl (fun _ => False) _).alloc _) (fun _ _ f => f)) _ rfl ⟨q.head, Nq.data.toList, Fq.data.toList, Vq.data.toList⟩ (cells_new rfl _ _) (lineVals_one _) (by have := hdl'.out; omega) ?_); intro q8 d8 w8 hO8 hg8))
              have hK8 := Lib.hid (OwnR.keeps (hOx.out.keep ((Keeps.refl (fun _ => False) _).alloc _) (fun _ _ f => f)) (hkx.out.alloc _) hg8.out)
              refine ⟨⟨k + 1, q8, d8, by omega, by go_num, by rw [hsame.out]; simp, by rw [hsame.out]; exact hO8, hK8⟩, by simp [intOf]; omega⟩
        · have e2 := bne_list a2
          have a2' := Lib.hid a2; clear a2
          have b4 : (Nq.data.toList ≠ N.data.toList) := a2'.out
          have hkk : Hid (keepB h N.data.toList L.data.toList ⟨q.head, Nq.data.toList, Fq.data.toList, Vq.data.toList⟩ = true) := Lib.hid (by unfold keepB; simp [b4])
          clear b4
          have hsame : Hid (dK h N.data.toList L.data.toList ls (k + 1) = D ++ [(⟨q.head, Nq.data.toList, Fq.data.toList, Vq.data.toList⟩ : LineD)]) := Lib.hid (by
            rw [hstep.out, if_pos, ← hqd.out]
            rw [hqd.out]; exact hkk.out)
          go_wp2_with (first | ((with_reducible refine at_slot 54 ?_); refine wpList_load_mid rfl 28 (.tmp 53) rfl g (o + k * 4) rfl [.int .i64 q.head, .string Nq, .string Fq, .string Vq] _ hrow.out Try.underlying28 rfl line5InfoG ?_) | ((with_reducible refine at_slot 56 ?_); go_must (refine wpList_append_r rfl (.tmp 50) (.tmp 55) 22 28 rfl i0 _ 56 Try.underlying22 hi0 hi1 hi2 hi3 rfl (by decide) (by decide) lineVals_len w2 _ D.length D rfl rfl (hOx.out.keep ((Keeps.refl (fun _ => False) _).alloc _) (fun _ _ f => f)) _ rfl ⟨q.head, Nq.data.toList, Fq.data.toList, Vq.data.toList⟩ (cells_new rfl _ _) (lineVals_one _) (by have := hdl'.out; omega) ?_); intro q8 d8 w8 hO8 hg8))
          have hK8 := Lib.hid (OwnR.keeps (hOx.out.keep ((Keeps.refl (fun _ => False) _).alloc _) (fun _ _ f => f)) (hkx.out.alloc _) hg8.out)
          refine ⟨⟨k + 1, q8, d8, by omega, by go_num, by rw [hsame.out]; simp, by rw [hsame.out]; exact hO8, hK8⟩, by simp [intOf]; omega⟩
      · have e1 : (q.head != h) = true := by simp [a1]
        have hkk : Hid (keepB h N.data.toList L.data.toList ⟨q.head, Nq.data.toList, Fq.data.toList, Vq.data.toList⟩ = true) := Lib.hid (by unfold keepB; simp [a1])
        clear a1
        have hsame : Hid (dK h N.data.toList L.data.toList ls (k + 1) = D ++ [(⟨q.head, Nq.data.toList, Fq.data.toList, Vq.data.toList⟩ : LineD)]) := Lib.hid (by
          rw [hstep.out, if_pos, ← hqd.out]
          rw [hqd.out]; exact hkk.out)
        go_wp2_with (first | ((with_reducible refine at_slot 54 ?_); refine wpList_load_mid rfl 28 (.tmp 53) rfl g (o + k * 4) rfl [.int .i64 q.head, .string Nq, .string Fq, .string Vq] _ hrow.out Try.underlying28 rfl line5InfoG ?_) | ((with_reducible refine at_slot 56 ?_); go_must (refine wpList_append_r rfl (.tmp 50) (.tmp 55) 22 28 rfl i0 _ 56 Try.underlying22 hi0 hi1 hi2 hi3 rfl (by decide) (by decide) lineVals_len w2 _ D.length D rfl rfl (hOx.out.keep ((Keeps.refl (fun _ => False) _).alloc _) (fun _ _ f => f)) _ rfl ⟨q.head, Nq.data.toList, Fq.data.toList, Vq.data.toList⟩ (cells_new rfl _ _) (lineVals_one _) (by have := hdl'.out; omega) ?_); intro q8 d8 w8 hO8 hg8))
        have hK8 := Lib.hid (OwnR.keeps (hOx.out.keep ((Keeps.refl (fun _ => False) _).alloc _) (fun _ _ f => f)) (hkx.out.alloc _) hg8.out)
        refine ⟨⟨k + 1, q8, d8, by omega, by go_num, by rw [hsame.out]; simp, by rw [hsame.out]; exact hO8, hK8⟩, by simp [intOf]; omega⟩
    · obtain rfl : k = ls.length := by omega
      have hend : Hid (delC h N.data.toList L.data.toList ls = D) := Lib.hid (by rw [← hdk'.out]; unfold delC dK; rw [List.take_length])
      clear hlk hk hdl
      by_cases hsz : D.length = ls.length
      · have e5 : ((D.length : Int) == ls.length) = true := by simp [hsz]
        have hsz' := Lib.hid hsz
        clear hsz
        go_wp2_with fail
        go_ret2
        rw [hend.out]
        exact ⟨fun _ => rfl, fun hh => absurd hsz'.out hh, hK2.out.trans hKw.out⟩
      · have e5 : ((D.length : Int) == ls.length) = false := by simp; omega
        have hsz' := Lib.hid hsz
        clear hsz
        go_wp2_with fail
        go_ret2
        rw [hend.out]
        exact ⟨fun hh => absurd hh hsz'.out, fun _ => ⟨qa, d, rfl, hO.out.older hK2.out.size⟩, hK2.out.trans hKw.out⟩
end Go.Proofs.Ytdjmhjgfjbcdkaa
