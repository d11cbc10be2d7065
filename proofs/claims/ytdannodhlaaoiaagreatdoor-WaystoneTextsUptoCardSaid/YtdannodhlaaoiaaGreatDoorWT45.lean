/- conf.Get, walked. -/
import Derived.Test.YtdannodhlaaoiaaGreatDoorWT44
import Derived.Test.YtdannodhlaaoiaaGreatDoorWT28
import Derived.Test.YtdannodhlaaoiaaGreatDoorWT12
set_option linter.unusedVariables false
set_option linter.unusedSimpArgs false
set_option linter.unusedVariables false
set_option linter.unusedSimpArgs false
namespace Go.Proofs.YtdannodhlaaoiaaGreatDoor
open Go.RowKit

theorem right_take (ls : List LineD) : rightC (ls.take 65) = rightC ls := by
  by_cases h : ls.length ≤ 64
  · rw [List.take_of_length_le (by omega)]
  · unfold rightC
    have h1 : ¬ (ls.take 65).length ≤ 64 := by rw [List.length_take]; omega
    simp [h]
    intro h2
    omega
theorem take_more {ls : List LineD} {q : LineD} (h : ls.length ≤ 64) : (ls ++ [q]).take 65 = ls.take 65 ++ [q] := by
  rw [List.take_of_length_le (by simp; omega), List.take_of_length_le (by omega)]
theorem take_same {ls : List LineD} {q : LineD} (h : ¬ ls.length ≤ 64) : (ls ++ [q]).take 65 = ls.take 65 := by
  rw [List.take_append_of_le_length (by omega)]
theorem ans_none {x : List UInt8} (h : getAll x = none) : ansC x = ([], 4) := by unfold ansC; rw [h]
theorem ans_yes {x : List UInt8} {ls : List LineD} (h : getAll x = some ls) (hr : rightC ls = true) : ansC x = (ls, 0) := by unfold ansC; rw [h]; simp only []; rw [if_pos hr]
theorem ans_no {x : List UInt8} {ls : List LineD} (h : getAll x = some ls) (hr : rightC ls = false) : ansC x = ([], 3) := by unfold ansC; rw [h]; simp only []; rw [if_neg (by simp [hr])]
theorem all_next {x r r' : List UInt8} {h : UInt8} {D : List LineD} {q : LineD} (hx : getAll x = (getAll (h :: r)).map (D ++ ·)) (hq : getLn h r = some (q, r')) : getAll x = (getAll r').map ((D ++ [q]) ++ ·) := by
  rw [hx, getAll_some hq, Option.map_map]
  congr 1
  funext y
  simp
theorem all_stop {x r : List UInt8} {h : UInt8} {D : List LineD} (hx : getAll x = (getAll (h :: r)).map (D ++ ·)) (hq : getLn h r = none) : getAll x = none := by
  rw [hx, getAll_none hq]; rfl
theorem small_snoc {D : List LineD} {q : LineD} {m : Nat} (h : LinesLt D m) (hq : q.name.length ≤ m ∧ q.leaf.length ≤ m ∧ q.value.length ≤ m) : LinesLt (D ++ [q]) m := fun l hl => by
  rcases List.mem_append.1 hl with h1 | h1
  · exact h l h1
  · rw [List.mem_singleton] at h1; subst h1; exact hq
theorem small_take {D : List LineD} {m : Nat} (h : LinesLt D m) (k : Nat) : LinesLt (D.take k) m := fun l hl => h l (List.mem_of_mem_take hl)
theorem small_mono {D : List LineD} {m k : Nat} (h : LinesLt D m) (hk : m ≤ k) : LinesLt D k := fun l hl => by have := h l hl; omega

set_option maxRecDepth 100000 in
set_option maxHeartbeats 16000000 in
theorem get_any (v : Value) (x : List UInt8) (w : World) (hv : Hid (BytesAt w v x)) (hl : x.length ≤ 1048576) :
    Calls Tryz.prog 16 #[v] w (ResPost (ansC x) w) := by
  obtain ⟨i0, hi0, hi1, hi2, hi3⟩ := lineAll
  obtain ⟨p, c, rfl, -⟩ := hv.out
  go_enter Tryz.func16, Tryz.ntmps16
  go_wp2_with fail
  go_loopw [0, 4] (fun bv' cv wr => ∃ (r : List UInt8) (D E : List LineD) (pr pc : Option Addr) (cr cc : Nat), bv' = .slice pr r.length cr ∧ cv = .slice pc E.length cc ∧ r.length ≤ x.length ∧ E.length ≤ 65 ∧ Hid (E = D.take 65) ∧ Hid (LinesLt D 255) ∧ Hid (getAll x = (getAll r).map (D ++ ·)) ∧ Hid (BytesAt w (.slice pr r.length cr) r) ∧ Hid (OwnR 50 4 lineVals w wr (.slice pc E.length cc) E) ∧ Hid (Keeps (fun _ => False) w wr)) (fun bv' _ _ => match bv' with | .slice _ n _ => n | _ => 0)
  case atStart => exact ⟨x, [], [], p, none, c, 0, rfl, rfl, Nat.le_refl _, by simp, Lib.hid rfl, Lib.hid (fun l hl => by cases hl), Lib.hid (by cases getAll x <;> simp), hv, Lib.hid (OwnR.nil _ _ (Nat.le_refl _)), Lib.hid (Keeps.refl _ _)⟩
  case round =>
    obtain ⟨r, D, E, pr, pc, cr, cc, rfl, rfl, hrl, hEl, hE, hsm, hall, hB, hO, hK⟩ := hrel
    cases r with
    | nil =>
      have hD : Hid (getAll x = some D) := Lib.hid (by rw [hall.out, getAll_nil]; simp)
      have hR := Lib.hid (hO.out.at lineVals_len)
      have hLn := Lib.hid hR.out.lines
      have hsE : Hid (LinesLt E 9223372036854775807) := Lib.hid (by rw [hE.out]; exact small_mono (small_take hsm.out 65) (by omega))
      have hzE : rightC E = rightC D := by rw [hE.out]; exact right_take D
      have hzE' := Lib.hid hzE
      clear hO hall hB hsm hzE
      go_wp2_with fail
      cases hz : rightC D with
      | true =>
        have hED : E = D := by
          have := right_len hz
          rw [hE.out, List.take_of_length_le (by omega)]
        have hans := Lib.hid (ans_yes hD.out hz)
        have hzt : Hid (rightC E = true) := Lib.hid (by rw [hzE'.out]; exact hz)
        subst hED
        refine (right_c _ E true _ hLn (by omega) hsE hzt).mono ?_
        rintro e w2 ⟨rfl, k2⟩
        have hR2 := Lib.hid (hR.out.keep k2)
        have hK2 := Lib.hid (hK.out.trans k2)
        clear k2 hLn hsE hzt hz hD hE hR hK hzE'
        go_wp2_with fail
        go_ret2
        rw [hans.out]
        exact ⟨_, _, rfl, hR2.out, hK2.out⟩
      | false =>
        have hans := Lib.hid (ans_no hD.out hz)
        have hzt : Hid (rightC E = false) := Lib.hid (by rw [hzE'.out]; exact hz)
        refine (right_c _ E false _ hLn (by omega) hsE hzt).mono ?_
        rintro e w2 ⟨rfl, k2⟩
        have hK2 := Lib.hid (hK.out.trans k2)
        clear k2 hLn hsE hzt hz hD hE hR hK hzE'
        go_wp2_with fail
        go_ret2
        rw [hans.out]
        exact ⟨none, 0, rfl, RowsAt.nil _, hK2.out⟩
    | cons h t =>
      simp only [List.length_cons] at hrl hB ⊢
      have g0 : (0 : Int) < (t.length : Int) + 1 := by omega
      have htl : t.length ≤ 1048576 := by omega
      have hB' : Hid (BytesAt w (.slice pr (t.length + 1) cr) (h :: t)) := hB
      clear hB
      go_wp2_with fail
      refine (getLine_any _ h t w _ hB' hK htl).mono ?_
      rintro e w2 ⟨k2, hm⟩
      have hK2 := Lib.hid (hK.out.trans k2)
      have hO2 := Lib.hid (hO.out.keep k2 (fun _ _ f => f))
      clear hK hO k2 hB'
      cases hg : getLn h t with
      | none =>
        rw [hg] at hm
        simp only at hm
        subst hm
        have hans := Lib.hid (ans_none (all_stop hall.out hg))
        have hK3 := Lib.hid (hK2.out.alloc (.cells #[.int .i64 0, .string ⟨#[]⟩, .string ⟨#[]⟩, .string ⟨#[]⟩] 50))
        clear hg hall hE hsm hO2
        go_wp2_with ((with_reducible refine at_store 5 ?_); refine wpList_store_new rfl 50 (.tmp 5) (.tmp 14) rfl _ #[.int .i64 0, .string ⟨#[]⟩, .string ⟨#[]⟩, .string ⟨#[]⟩] rfl rfl lineInfo rfl (line_one _ _ _ _) ?_)
        go_ret2
        rw [hans.out]
        exact ⟨none, 0, rfl, RowsAt.nil _, hK3.out⟩
      | some qr =>
        obtain ⟨q, r'⟩ := qr
        rw [hg] at hm
        simp only at hm
        obtain ⟨p2, c2, N, F, V, rfl, hq, hB2⟩ := hm
        have hlen := getLn_len hg
        have hall2 := Lib.hid (all_next hall.out hg)
        have hsm2 := Lib.hid (small_snoc hsm.out hlen.2)
        have hB2' := Lib.hid hB2
        have hq' := Lib.hid hq
        have hrl2 : r'.length + 3 ≤ t.length := hlen.1
        clear hg hall hsm hlen hB2 hq
        obtain ⟨Wx, hWx⟩ : ∃ W, W = w2.alloc (.cells #[.int .i64 q.head, .string N, .string F, .string V] 50) := ⟨_, rfl⟩
        have hK3 : Hid (Keeps (fun _ => False) w Wx) := Lib.hid (by rw [hWx]; exact hK2.out.alloc _)
        have hO3 : Hid (OwnR 50 4 lineVals w Wx (.slice pc E.length cc) E) := Lib.hid (by rw [hWx]; exact hO2.out.keep ((Keeps.refl (fun _ => False) _).alloc _) (fun _ _ f => f))
        have hBx : Hid (BlkAt Wx w2.heap.size 50 [.int .i64 q.head, .string N, .string F, .string V]) := Lib.hid (by rw [hWx]; exact BlkAt.new _ _ _)
        have hWx' := Lib.hid hWx
        clear hWx hK2 hO2
        go_upto_region 4 with ((with_reducible refine at_store 5 ?_); refine wpList_store_new rfl 50 (.tmp 5) (.tmp 14) rfl _ #[.int .i64 q.head, .string N, .string F, .string V] rfl rfl lineInfo rfl (line_one _ _ _ _) ?_)
        rw [← hWx'.out]
        generalize w2.heap.size = gx at hBx ⊢
        clear hWx'
        by_cases hE64 : E.length ≤ 64
        · have g1 : (E.length : Int) ≤ 64 := by omega
          have hDl : D.length ≤ 64 := by have h1 := hE.out; have h2 := congrArg List.length h1; rw [List.length_take] at h2; omega
          have hE2 : Hid (E ++ [q] = (D ++ [q]).take 65) := Lib.hid (by rw [take_more hDl, ← hE.out])
          clear hE hDl
          go_wp2_with (first | ((with_reducible refine at_slot 23 ?_); refine wpList_load_mid rfl 50 (.tmp 5) rfl gx 0 rfl [.int .i64 q.head, .string N, .string F, .string V] _ hBx.out.range Tryz.underlying50 rfl lineInfo ?_) | ((with_reducible refine at_slot 25 ?_); go_must (refine wpList_append_r rfl (.tmp 22) (.tmp 24) 24 50 rfl i0 _ 56 Tryz.underlying24 hi0 hi1 hi2 hi3 rfl (by decide) (by decide) lineVals_len w _ E.length E rfl rfl (hO3.out.keep ((Keeps.refl (fun _ => False) _).alloc _) (fun _ _ f => f)) _ rfl ⟨q.head, N.data.toList, F.data.toList, V.data.toList⟩ (cells_new rfl _ _) (lineVals_one _) (by omega) ?_); intro q8 d8 w8 hO8 hg8))
          have hk8 := Lib.hid ((hO3.out.keep ((Keeps.refl (fun _ => False) Wx).alloc (.cells #[.int .i64 q.head, .string N, .string F, .string V] 50)) (fun _ _ f => f)).keeps (hK3.out.alloc _) hg8.out)
          rw [← hq'.out] at hO8
          exact ⟨⟨r', D ++ [q], E ++ [q], p2, q8, c2, d8, rfl, by simp, by omega, by simp; omega, hE2, hsm2, hall2, hB2', by simpa using hO8, hk8⟩, by simp; omega⟩
        · have g1 : ¬ (E.length : Int) ≤ 64 := by omega
          have hDl : ¬ D.length ≤ 64 := by have h1 := hE.out; have h2 := congrArg List.length h1; rw [List.length_take] at h2; omega
          have hE2 : Hid (E = (D ++ [q]).take 65) := Lib.hid (by rw [take_same hDl, ← hE.out])
          clear hE hDl
          go_wp2_with fail
          exact ⟨⟨r', D ++ [q], E, p2, pc, c2, cc, rfl, rfl, by omega, hEl, hE2, hsm2, hall2, hB2', hO3, hK3⟩, by simp; omega⟩
end Go.Proofs.YtdannodhlaaoiaaGreatDoor
/- diff.Lines, walked. -/
set_option linter.unusedVariables false
set_option linter.unusedSimpArgs false
namespace Go.Proofs.YtdannodhlaaoiaaGreatDoor
open Go.RowKit

def ChRes (L : List ChD) (w : World) (e : Ending) (w' : World) : Prop :=
  ∃ p c, e = .returned (.tuple #[.slice p L.length c, .int .i64 0]) ∧ OwnR 52 6 cVals w w' (.slice p L.length c) L ∧ Keeps (fun _ => False) w w'
def lenV : Value → Nat
  | .slice _ n _ => n
  | _ => 0
theorem cVals_len (c : ChD) : (cVals c).length = 6 := rfl
theorem cVals_one (c : ChD) : ∀ u ∈ cVals c, u.oneCell' = true := by
  intro u hu
  simp only [cVals, List.mem_cons, List.not_mem_nil, or_false] at hu
  rcases hu with rfl | rfl | rfl | rfl | rfl | rfl <;> first | rfl | exact strv_one _
theorem changeAll : ∃ i, Tryz.prog.info? 52 = some i ∧ i.zero = some (.agg #[.int .i64 0, .string ⟨#[]⟩, .string ⟨#[]⟩, .string ⟨#[]⟩, .string ⟨#[]⟩, .string ⟨#[]⟩]) ∧ i.size = 6 ∧ i.bytes = 88 := by
  have h : (Tryz.prog.info? 52).map (fun i => (i.zero, i.size, i.bytes)) = some (some (.agg #[.int .i64 0, .string ⟨#[]⟩, .string ⟨#[]⟩, .string ⟨#[]⟩, .string ⟨#[]⟩, .string ⟨#[]⟩]), 6, 88) := by kernel_rfl
  obtain ⟨i, hi, e⟩ := Option.map_eq_some_iff.1 h
  injection e with e1 e; injection e with e2 e3
  exact ⟨i, hi, e1, e2, e3⟩
theorem OwnR.own_ltP {α : Type} {t sz : Nat} {cv : α → List Value} {w0 w : World} {v : Value} {xs : List α} (h : OwnR t sz cv w0 w v xs) (k : Nat) (e : v.ownBlock = some k) : k < w.heap.size := by
  rcases h.1.2 with ⟨e1, _⟩ | ⟨g, cap, cur, he, _, hg, _⟩
  · rw [e1] at e; simp [Value.ownBlock] at e
  · rw [he] at e
    have e : some g = some k := e
    injection e with e; subst e; exact lt_of_block hg
theorem lines_no (v u : Value) (A B : List LineD) (w : World) (hv : Hid (RowsAt 4 lineVals w v A)) (hu : Hid (RowsAt 4 lineVals w u B)) (hl : A.length ≤ 9223372036854775807) (hl2 : B.length ≤ 9223372036854775807) (hlt : Hid (LinesLt A 9223372036854775807)) (hlt2 : Hid (LinesLt B 9223372036854775807)) (hr : Hid (rightC A = false ∨ rightC B = false)) :
    Calls Tryz.prog 17 #[v, u] w (NewRes (.tuple #[.slice none 0 0, .int .i64 1]) w) := by
  have hLn := Lib.hid hv.out.lines
  clear hv
  go_enter Tryz.func17, Tryz.ntmps17
  cases hz : rightC A with
  | false =>
    have hz' := Lib.hid hz
    clear hz hr
    go_wp2_with fail
    refine (right_c _ A false _ hLn hl hlt hz').mono ?_
    rintro e w2 ⟨rfl, k2⟩
    have k2' := Lib.hid k2
    clear k2
    go_wp2_with fail
    go_ret2
    exact ⟨rfl, k2'.out⟩
  | true =>
    have hz' := Lib.hid hz
    have hz2 : Hid (rightC B = false) := Lib.hid (hr.out.elim (fun h => by rw [hz] at h; cases h) id)
    clear hz hr
    go_wp2_with fail
    refine (right_c _ A true _ hLn hl hlt hz').mono ?_
    rintro e w2 ⟨rfl, k2⟩
    have k2' := Lib.hid k2
    have hLm := Lib.hid (hu.out.keep k2).lines
    clear k2
    go_wp2_with fail
    refine (right_c _ B false _ hLm hl2 hlt2 hz2).mono ?_
    rintro e w3 ⟨rfl, k3⟩
    have k3' := Lib.hid (k2'.out.trans k3)
    clear k3
    go_wp2_with fail
    go_ret2
    exact ⟨rfl, k3'.out⟩
theorem BlkAt.drew {w : World} {g : Nat} {t : TypeId} {x : List Value} (h : BlkAt w g t x) : BlkAt w.drew g t x := h.keep ((Keeps.refl (fun _ => False) w).drew) id
theorem BlkAt.four {w : World} {g : Nat} {t : TypeId} {p0 p1 p2 p3 : Value} (h : BlkAt w g t [p0, p1, p2, p3]) (v0 v1 v2 v3 : Value) : BlkAt (w.setCells g 0 [v0, v1, v2, v3]) g t [v0, v1, v2, v3] := (((h.set 0 v0).set 1 v1).set 2 v2).set 3 v3
theorem from_own {p : Option Addr} {n m c k j n' c' i : Nat} (e : (Value.slice (if c = k then p else Option.map (fun x => x.add j) p) n m).ownBlock = some i) : (Value.slice p n' c').ownBlock = some i := by
  cases p with
  | none => split at e <;> exact e
  | some a =>
    split at e
    · exact e
    · have h : (a.add j).block = a.block := by unfold Addr.add; split <;> rfl
      have e2 : some (a.add j).block = some i := e
      rw [h] at e2; exact e2
theorem if_own {g o o2 n m c n' c' i : Nat} (e : (Value.slice (if c = 1 then some ⟨g, o, none⟩ else some ⟨g, o2, none⟩) n m).ownBlock = some i) : (Value.slice (some ⟨g, o, none⟩) n' c').ownBlock = some i := by
  split at e <;> exact e
theorem nil_listb {a : ByteArray} (h : a.data.toList = []) : ([] == a.toList) = true := by rw [Lib.toList_data, h]; rfl
theorem nil_listn {a : ByteArray} (h : a.data.toList ≠ []) : ([] == a.toList) = false := by rw [Lib.toList_data]; cases hh : a.data.toList with | nil => exact absurd hh h | cons => rfl
end Go.Proofs.YtdannodhlaaoiaaGreatDoor
