/- What is planned from and to nothing: all unlike, plain. -/
import Derived.Test.YtmclnamgihphcaaGreatMM22
import Derived.Test.YtmclnamgihphcaaGreatMM12
import Derived.Shelf.Strings.Builder1
import Derived.Test.YtmclnamgihphcaaGreatProg
set_option linter.unusedVariables false
set_option linter.unusedSimpArgs false
set_option linter.unusedVariables false
set_option linter.unusedSimpArgs false
namespace Go.Proofs.YtmclnamgihphcaaGreat
open Go.RowKit

theorem names_from (h : Int) : ∀ (ls : List LineD) (p : LineD), rises (p :: ls) → (namesFrom h (some p) ls).Nodup ∧ ∀ n ∈ namesFrom h (some p) ls, (∃ q ∈ ls, q.head = h ∧ q.name = n) ∧ (p.head = h → Op.bytesLess p.name n = true) := by
  intro ls
  induction ls with
  | nil => intro p _; exact ⟨by simp [namesFrom], fun n hn => by simp [namesFrom] at hn⟩
  | cons q r ih =>
    intro p hr
    have hpq := rises_head hr q (by simp)
    have hrt := rises_tail hr
    obtain ⟨i1, i2⟩ := ih q hrt
    rw [lessB_iff] at hpq
    have rest : ∀ n ∈ namesFrom h (some q) r, (∃ q' ∈ q :: r, q'.head = h ∧ q'.name = n) ∧ (p.head = h → Op.bytesLess p.name n = true) := fun n hn => by
      obtain ⟨⟨q', hq', e1, e2⟩, j2⟩ := i2 n hn
      refine ⟨⟨q', by simp [hq'], e1, e2⟩, fun hp => ?_⟩
      have h3 := rises_head hrt q' hq'
      rw [lessB_iff] at h3
      by_cases hq : q.head = h
      · have j3 := j2 hq
        rcases hpq with e | ⟨-, e | ⟨e, -⟩⟩
        · omega
        · exact bl_trans e j3
        · rw [e]; exact j3
      · rcases hpq with e | ⟨e, -⟩
        · rcases h3 with h3 | ⟨h3, -⟩ <;> omega
        · omega
    unfold namesFrom
    by_cases hc : q.head = h ∧ (match some p with | none => true | some p => !(decide (p.head = q.head) && decide (p.name = q.name))) = true
    · rw [if_pos hc]
      obtain ⟨hq, hne⟩ := hc
      refine ⟨?_, ?_⟩
      · rw [List.singleton_append, List.nodup_cons]
        refine ⟨fun hin => ?_, i1⟩
        have := (i2 _ hin).2 hq
        rw [bl_irr] at this
        cases this
      · intro n hn
        rw [List.singleton_append, List.mem_cons] at hn
        rcases hn with rfl | hn
        · refine ⟨⟨q, by simp, hq, rfl⟩, fun hp => ?_⟩
          rcases hpq with e | ⟨-, e | ⟨e, -⟩⟩
          · omega
          · exact e
          · have h5 : p.head = q.head := by omega
            simp [h5, e] at hne
        · exact rest n hn
    · rw [if_neg hc, List.nil_append]
      exact ⟨i1, rest⟩
theorem names_nodup (h : Int) {ls : List LineD} (hr : rises ls) : (namesFrom h none ls).Nodup ∧ ∀ n ∈ namesFrom h none ls, ∃ q ∈ ls, q.head = h ∧ q.name = n := by
  cases ls with
  | nil => exact ⟨by simp [namesFrom], fun n hn => by simp [namesFrom] at hn⟩
  | cons q r =>
    obtain ⟨i1, i2⟩ := names_from h r q hr
    unfold namesFrom
    by_cases hq : q.head = h
    · rw [if_pos ⟨hq, rfl⟩]
      refine ⟨?_, ?_⟩
      · rw [List.singleton_append, List.nodup_cons]
        refine ⟨fun hin => ?_, i1⟩
        have := (i2 _ hin).2 hq
        rw [bl_irr] at this
        cases this
      · intro n hn
        rw [List.singleton_append, List.mem_cons] at hn
        rcases hn with rfl | hn
        · exact ⟨q, by simp, hq, rfl⟩
        · obtain ⟨q', h1, h2⟩ := (i2 n hn).1
          exact ⟨q', by simp [h1], h2⟩
    · rw [if_neg (fun e => hq e.1), List.nil_append]
      refine ⟨i1, fun n hn => ?_⟩
      obtain ⟨q', h1, h2⟩ := (i2 n hn).1
      exact ⟨q', by simp [h1], h2⟩

theorem merge_left : ∀ (n : Nat) (a : List LineD), a.length ≤ n → mergeC n a [] = a.flatMap (fun l => oneCh l l.value []) := by
  intro n
  induction n with
  | zero =>
    intro a h
    obtain rfl : a = [] := List.eq_nil_of_length_eq_zero (by omega)
    rfl
  | succ n ih =>
    intro a h
    cases a with
    | nil => rfl
    | cons x r =>
      rw [mergeC, if_neg (by simp)]
      have h1 : stepCh (x :: r) [] = oneCh x x.value [] := rfl
      have h2 : nextL (x :: r) [] = r := rfl
      have h3 : nextL [] (x :: r) = [] := rfl
      rw [h1, h2, h3, ih r (by simpa using h), List.flatMap_cons]
theorem merge_right : ∀ (n : Nat) (b : List LineD), b.length ≤ n → mergeC n [] b = b.flatMap (fun l => oneCh l [] l.value) := by
  intro n
  induction n with
  | zero =>
    intro a h
    obtain rfl : a = [] := List.eq_nil_of_length_eq_zero (by omega)
    rfl
  | succ n ih =>
    intro a h
    cases a with
    | nil => rfl
    | cons x r =>
      rw [mergeC, if_neg (by simp)]
      have h1 : stepCh [] (x :: r) = oneCh x [] x.value := rfl
      have h2 : nextL (x :: r) [] = r := rfl
      have h3 : nextL [] (x :: r) = [] := rfl
      rw [h1, h2, h3, ih r (by simpa using h), List.flatMap_cons]
theorem areas_one (l : LineD) (a b : List UInt8) : areasC (oneCh l a b) = [] ∨ (areasC (oneCh l a b) = [⟨7, l.name⟩] ∧ l.head = 1 ∧ l.leaf = costW) := by
  unfold oneCh
  by_cases h : a = b
  · rw [if_pos h]; left; rfl
  · rw [if_neg h]
    unfold areasC
    rw [List.flatMap_cons, List.flatMap_nil, List.append_nil]
    by_cases hc : isCost ⟨⟨l.head, l.name, l.leaf, []⟩, a, b⟩ = true
    · right
      rw [if_pos hc]
      unfold isCost at hc
      simp only [Bool.and_eq_true, decide_eq_true_eq] at hc
      exact ⟨rfl, hc.1, hc.2⟩
    · left; rw [if_neg hc]
theorem areas_nodup (g : LineD → List ActD) (hg : ∀ l, g l = [] ∨ (g l = [⟨7, l.name⟩] ∧ l.head = 1 ∧ l.leaf = costW)) : ∀ (ls : List LineD), rises ls → (ls.flatMap g).Nodup ∧ ∀ a ∈ ls.flatMap g, ∃ l ∈ ls, a = ⟨7, l.name⟩ ∧ l.head = 1 ∧ l.leaf = costW := by
  intro ls
  induction ls with
  | nil => intro _; exact ⟨by simp, fun a ha => by simp at ha⟩
  | cons x r ih =>
    intro hr
    obtain ⟨i1, i2⟩ := ih (rises_tail hr)
    rw [List.flatMap_cons]
    have rest : ∀ a ∈ r.flatMap g, ∃ l ∈ x :: r, a = ⟨7, l.name⟩ ∧ l.head = 1 ∧ l.leaf = costW := fun a ha => by
      obtain ⟨l, hl, e⟩ := i2 a ha
      exact ⟨l, by simp [hl], e⟩
    rcases hg x with e | ⟨e, e1, e2⟩
    · rw [e, List.nil_append]; exact ⟨i1, rest⟩
    · rw [e]
      refine ⟨?_, fun a ha => ?_⟩
      · rw [List.singleton_append, List.nodup_cons]
        refine ⟨fun hin => ?_, i1⟩
        obtain ⟨l, hl, f, f1, f2⟩ := i2 _ hin
        have hn : x.name = l.name := by injection f
        have hless := rises_head hr l hl
        rw [lessB_iff] at hless
        rcases hless with h | ⟨-, h | ⟨-, h⟩⟩
        · omega
        · rw [hn, bl_irr] at h; cases h
        · rw [e2, f2, bl_irr] at h; cases h
      · rw [List.singleton_append, List.mem_cons] at ha
        rcases ha with rfl | ha
        · exact ⟨x, by simp, rfl, e1, e2⟩
        · exact rest a ha
theorem map_nodup (k : Int) {xs : List (List UInt8)} (h : xs.Nodup) : (xs.map fun n => (⟨k, n⟩ : ActD)).Nodup := by
  rw [List.nodup_iff_pairwise_ne, List.pairwise_map]
  exact (List.nodup_iff_pairwise_ne.1 h).imp (fun hne e => hne (by injection e))
theorem namesA_nodup {ls : List LineD} (hr : rightC ls = true) (h : Int) : (namesA h ls).Nodup := by
  unfold namesA
  split
  · simp
  · exact (names_nodup h (right_rises hr)).1
theorem both_nodup {X Y : List ActD} {k : Int} (hX : X.Nodup) (hY : Y.Nodup) (h1 : ∀ a ∈ X, a.kind = k) (h2 : ∀ a ∈ Y, a.kind = 7) (hk : k ≠ 7) : (X ++ Y).Nodup := by
  rw [List.nodup_append]
  refine ⟨hX, hY, fun a ha b hb e => ?_⟩
  subst e
  exact hk ((h1 a ha).symm.trans (h2 a hb))
theorem raw_left {x : List LineD} (hr : rightC x = true) : (rawA x []).Nodup := by
  unfold rawA
  rw [merge_left _ x (by simp)]
  have hf : ∀ cs, facesC x [] cs = (namesA 2 x).map fun n => (⟨2, n⟩ : ActD) := fun cs => by
    unfold facesC
    rw [show namesA 2 [] = [] from rfl, List.flatMap_nil, List.append_nil, List.map_eq_flatMap]
    congr 1
  have ha : areasC (x.flatMap fun l => oneCh l l.value []) = x.flatMap fun l => areasC (oneCh l l.value []) := by unfold areasC; rw [List.flatMap_assoc]
  rw [hf, ha]
  obtain ⟨h1, h2⟩ := areas_nodup _ (fun l => areas_one l l.value []) x (right_rises hr)
  refine both_nodup (k := 2) (map_nodup 2 (namesA_nodup hr 2)) h1 (fun a h => ?_) (fun a h => ?_) (by decide)
  · obtain ⟨n, -, rfl⟩ := List.mem_map.1 h; rfl
  · obtain ⟨l, -, e, -⟩ := h2 a h; rw [e]
theorem raw_right {x : List LineD} (hr : rightC x = true) : (rawA [] x).Nodup := by
  unfold rawA
  rw [merge_right _ x (by simp)]
  have hf : ∀ cs, facesC [] x cs = (namesA 2 x).map fun n => (⟨6, n⟩ : ActD) := fun cs => by
    unfold facesC
    rw [show namesA 2 [] = [] from rfl, List.flatMap_nil, List.nil_append, List.map_eq_flatMap]
    congr 1
  have ha : areasC (x.flatMap fun l => oneCh l [] l.value) = x.flatMap fun l => areasC (oneCh l [] l.value) := by unfold areasC; rw [List.flatMap_assoc]
  rw [hf, ha]
  obtain ⟨h1, h2⟩ := areas_nodup _ (fun l => areas_one l [] l.value) x (right_rises hr)
  refine both_nodup (k := 6) (map_nodup 6 (namesA_nodup hr 2)) h1 (fun a h => ?_) (fun a h => ?_) (by decide)
  · obtain ⟨n, -, rfl⟩ := List.mem_map.1 h; rfl
  · obtain ⟨l, -, e, -⟩ := h2 a h; rw [e]
theorem right_nil : rightC [] = true := by decide
def lineP (v : UInt8) : LineD := ⟨2, [101, 116, 104, 48], costW, [v]⟩
theorem plans_right : rightC [lineP 53] = true ∧ rightC [lineP 54] = true := by decide +kernel
theorem one_of {L : List ActD} {k : Int} {n : List UInt8} (h : L.map (fun a => (a.kind, a.name)) = [(k, n)]) : L = [⟨k, n⟩] := by
  match L, h with
  | [a], h =>
    simp at h
    obtain ⟨rfl, rfl⟩ := h
    rfl
theorem plans_rawd : (rawA [lineP 53] [lineP 54]).map (fun a => (a.kind, a.name)) = [(7, [101, 116, 104, 48])] ∧ wholeC [lineP 53] (mergeC 2 [lineP 53] [lineP 54]) = false := by decide +kernel
theorem plans_raw : rawA [lineP 53] [lineP 54] = [⟨7, [101, 116, 104, 48]⟩] ∧ wholeC [lineP 53] (mergeC 2 [lineP 53] [lineP 54]) = false := ⟨one_of plans_rawd.1, plans_rawd.2⟩
theorem plans_make : makeA [lineP 53] [lineP 54] = [⟨7, [101, 116, 104, 48]⟩] := by
  unfold makeA
  rw [show wholeC [lineP 53] (mergeC ([lineP 53].length + [lineP 54].length) [lineP 53] [lineP 54]) = false from plans_raw.2, if_neg Bool.false_ne_true, plans_raw.1]
  simp [sortA]
end Go.Proofs.YtmclnamgihphcaaGreat
/- strings.Builder: copyCheck, WriteString, by hand; String by the shelf (ShelfB). -/
set_option linter.unusedVariables false
set_option linter.unusedSimpArgs false
namespace Go.Proofs.YtmclnamgihphcaaGreat
open Go.RowKit

theorem sizeB : (Tryz.prog.info? 81).map (·.size) = some 2 := by kernel_rfl
theorem liesB : liesAt Tryz.prog Tryz.prog.depth 81 (2 / Tryz.prog.cellsOf 81) 0 81 1 = true := by kernel_rfl
theorem infoB : (Tryz.prog.info? 5).map (fun i => (i.zero, i.size, i.bytes)) = some (some (.int .u8 0), 1, 1) := by kernel_rfl
set_option maxHeartbeats 1000000 in
set_option maxRecDepth 100000 in
theorem cc_used (b : Nat) (w : World) (h0 : w.cell? ⟨b, 0, none⟩ = some (.pointer (some ⟨b, 0, none⟩))) :
    Calls Tryz.prog 50 #[.pointer (some ⟨b, 0, none⟩)] w fun e w' => e = .returned (.tuple #[]) ∧ w' = w := by
  obtain ⟨j, hj, _⟩ := Option.map_eq_some_iff.1 sizeB
  go_enter Tryz.func50, Tryz.ntmps50
  go_wp2
  rw [Lib.run_neq_ptr_same w _ Tryz.underlying78 hj]
  go_wp2
  go_end0
  exact ⟨rfl, rfl⟩
set_option maxHeartbeats 1000000 in
set_option maxRecDepth 100000 in
theorem cc_fresh (b : Nat) (w : World) (h0 : w.cell? ⟨b, 0, none⟩ = some (.pointer none)) (hsh : w.shape? b = some (81, 2)) (hfz : w.frozen? ⟨b, 0, none⟩ = false) :
    Calls Tryz.prog 50 #[.pointer (some ⟨b, 0, none⟩)] w fun e w' => e = .returned (.tuple #[]) ∧ w' = w.setCell ⟨b, 0, none⟩ (.pointer (some ⟨b, 0, none⟩)) := by
  obtain ⟨j, hj, hjs⟩ := Option.map_eq_some_iff.1 sizeB
  go_enter Tryz.func50, Tryz.ntmps50
  go_wp2
  rw [Lib.run_to_unsafe w ⟨b, 0, none⟩ Tryz.underlying78 Tryz.underlying131 hj (by rw [hjs]; decide) hsh (Nat.zero_lt_succ 1)]
  simp only [Result.andThen]
  rw [Oper.upon_value]
  go_wp2
  rw [run_callFunc_extern Tryz.func72 (by kernel_rfl) (by kernel_rfl) (by kernel_rfl) (e := Extern.AbiNoEscape.same) (by kernel_rfl)]
  rw [Lib.run_noEscape]
  simp only [Result.andThen]
  rw [Oper.upon_value]
  go_wp2
  rw [Lib.run_from_unsafe w ⟨b, 0, none⟩ Tryz.underlying131 Tryz.underlying78 hj hsh liesB]
  simp only [Result.andThen]
  rw [Oper.upon_value]
  go_wp2
  go_end0
  exact ⟨rfl, rfl⟩
/-- what is older than B stays, and so do blocks of other types -/
structure KeepsT (B : Nat) (w w' : World) : Prop where
  k : Keeps (fun i => B ≤ i) w w'
  t : ∀ (x : Nat) (t : TypeId) (cs : Array Value), t ≠ 5 → t ≠ 81 → w.heap[x]? = some (.cells cs t (0, 0)) → w'.heap[x]? = some (.cells cs t (0, 0))
theorem KeepsT.trans {B : Nat} {a b c : World} (h : KeepsT B a b) (k : KeepsT B b c) : KeepsT B a c := ⟨h.k.trans k.k, fun x t cs h1 h2 h3 => k.t x t cs h1 h2 (h.t x t cs h1 h2 h3)⟩
theorem KeepsT.of {B : Nat} {w w' : World} (k : Keeps (fun _ => False) w w') : KeepsT B w w' := ⟨k.mono (fun _ e => e.elim), fun x t cs _ _ h => by
  have hx : x < w.heap.size := by
    rcases Nat.lt_or_ge x w.heap.size with h' | h'
    · exact h'
    · simp [Array.getElem?_eq_none h'] at h
  rw [k.block x hx id]; exact h⟩
theorem KeepsT.blk {B : Nat} {w w' : World} (k : KeepsT B w w') {x : Nat} {t : TypeId} {cs : List Value} (h : BlkAt w x t cs) (h1 : t ≠ 5) (h2 : t ≠ 81) : BlkAt w' x t cs := k.t x t _ h1 h2 h
def IsB (B b : Nat) (bs : List Value) (w : World) : Prop := Lib.IsBuilder 81 5 B b bs w
theorem cc_any (B b : Nat) (bs : List Value) (w : World) (h : IsB B b bs w) :
    Calls Tryz.prog 50 #[.pointer (some ⟨b, 0, none⟩)] w fun e w' => e = .returned (.tuple #[]) ∧ (Lib.BuilderAt 81 5 B b (.pointer (some ⟨b, 0, none⟩)) bs w' ∧ KeepsT B w w') := by
  rcases h with h | h
  · refine (cc_fresh b w h.cell0 h.shape h.frozen0).mono ?_
    rintro e w' ⟨rfl, rfl⟩
    obtain ⟨hB, v, hbk, hown, hne⟩ := h
    refine ⟨rfl, Lib.BuilderAt.used (p := .pointer none) ⟨hB, v, hbk, hown, hne⟩ _, (Keeps.refl _ _).setCell (p := ⟨b, 0, none⟩) (.inl hB) _, fun x t cs h1 h2 h3 => ?_⟩
    rw [heap_setCell_other _ _ _ _ (fun e => by
      have e : x = b := e
      subst e; rw [hbk] at h3; injection h3 with h3; injection h3 with h4 h5 h6; exact h2 h5.symm)]
    exact h3
  · refine (cc_used b w h.cell0).mono ?_
    rintro e w' ⟨rfl, rfl⟩
    exact ⟨rfl, h, KeepsT.of (Keeps.refl _ _)⟩
set_option maxHeartbeats 2000000 in
set_option maxRecDepth 100000 in
theorem writeString_any (B b : Nat) (l : List UInt8) (s : ByteArray) (w : World) (h : IsB B b (Lib.byteCells l) w) (hlen : l.length + s.size ≤ 1000000000) (hBw : B ≤ w.heap.size) :
    Calls Tryz.prog 30 #[.pointer (some ⟨b, 0, none⟩), .string s] w fun e w' => e = .returned (.tuple #[.int .i64 s.size, .nilIface]) ∧ (IsB B b (Lib.byteCells (l ++ s.data.toList)) w' ∧ KeepsT B w w') := by
  obtain ⟨i0, hi, hz0, hz1, hz2⟩ := info_parts infoB
  have hl : (Lib.byteCells l).length = l.length := Lib.byteCells_length l
  go_enter Tryz.func30, Tryz.ntmps30
  go_wp2_with fail
  refine (cc_any B b (Lib.byteCells l) _ h).mono ?_
  rintro e w1 ⟨rfl, h1, hb1⟩
  obtain ⟨hB, v, hbk, hown, hne⟩ := h1
  have c0 : w1.cell? ⟨b, 0, none⟩ = some (.pointer (some ⟨b, 0, none⟩)) := by rw [Lib.cell_of_heap hbk]; rfl
  have c1 : w1.cell? ⟨b, 1, none⟩ = some v := by rw [Lib.cell_of_heap hbk]; rfl
  go_wp2_with (at_builtin; refine Lib.wpList_append_own_string _ rfl _ _ 79 9 rfl B 5 i0 Tryz.underlying79 Tryz.underlying9 hi hz0 hz1 hz2 _ _ _ rfl hown s rfl ?c3 ?c4 ?c5 ?_)
  case c3 => unfold maxLen; omega
  case c4 => omega
  case c5 => have := hb1.k.size; omega
  intro v' w2 hown' hgrow _
  have hlt : b < w1.heap.size := by
    rcases Nat.lt_or_ge b w1.heap.size with h' | h'
    · exact h'
    · simp [Array.getElem?_eq_none h'] at hbk
  have hb2 : w2.heap[b]? = some (.cells #[.pointer (some ⟨b, 0, none⟩), v] 81 (0, 0)) := by
    rw [hgrow.block b hlt (fun e => hne e.symm)]
    exact hbk
  have d0 : w2.cell? ⟨b, 0, none⟩ = some (.pointer (some ⟨b, 0, none⟩)) := by rw [Lib.cell_of_heap hb2]; rfl
  have d1 : w2.cell? ⟨b, 1, none⟩ = some v := by rw [Lib.cell_of_heap hb2]; rfl
  have f1 : w2.frozen? ⟨b, 1, none⟩ = false := Lib.frozen_of_heap hb2 1
  obtain ⟨ao, n', cap, rfl⟩ : ∃ ao n' cap, v' = .slice ao n' cap := by
    rcases hown'.2 with ⟨hv, _⟩ | ⟨g, cap, cur, hv, _⟩
    · exact ⟨_, _, _, hv⟩
    · exact ⟨_, _, _, hv⟩
  go_wp2
  go_ret2
  refine ⟨rfl, .inr ?_, ?_⟩
  · have e : Lib.byteCells (l ++ s.data.toList) = Lib.byteCells l ++ Lib.strCells s := by simp [Lib.byteCells, Lib.strCells]
    rw [e]
    exact Lib.BuilderAt.put (T := 81) (e := 5) hB hb2 (bs' := Lib.byteCells l ++ Lib.strCells s) (by rw [List.length_append, Lib.strCells_length, hl]; exact hown') (by decide)
  · refine hb1.trans ⟨((Keeps.refl _ _).grown hgrow (fun k hk => .inl ((hown.lt k hk).1))).setCell (p := ⟨b, 1, none⟩) (.inl hB) _, fun x t cs h1 h2 h3 => ?_⟩
    have hx : x < w1.heap.size := by
      rcases Nat.lt_or_ge x w1.heap.size with h' | h'
      · exact h'
      · simp [Array.getElem?_eq_none h'] at h3
    rw [heap_setCell_other _ _ _ _ (fun e => by
      have e : x = b := e
      subst e; rw [hbk] at h3; injection h3 with h3; injection h3 with h4 h5 h6; exact h2 h5.symm)]
    rw [hgrow.block x hx (fun e => by
      rcases hown.2 with ⟨hv, _⟩ | ⟨g, cap, cur, hv, _, hg, _⟩
      · subst hv; cases e
      · subst hv
        simp only [Value.ownBlock, Option.some.injEq] at e
        subst e
        rw [hg] at h3; injection h3 with h3; injection h3 with h4 h5 h6; exact h1 h5.symm)]
    exact h3
end Go.Proofs.YtmclnamgihphcaaGreat
/- (*strings.Builder).String at this program, laid in plain words: laid by lay-shelf.mjs and lay-plain.mjs, then its numbers made names. -/
namespace Go.Proofs.YtmclnamgihphcaaGreat
open Go.Shelf
def Tryz.lays169_ren : Go.Shelf.Ren := ⟨fun | 169 => 32 | n => n, fun | 70 => 78 | 9 => 9 | 0 => 0 | 72 => 81 | 37 => 79 | 127 => 108 | 3 => 3 | 5 => 5 | n => n, fun | n => n⟩
theorem Tryz.lays169 : Go.Proofs.Lays.n169 Tryz.prog Tryz.lays169_ren := {
  mixed := by kernel_rfl
  f169 := Tryz.func32.trans (congrArg some (by kernel_rfl))
  t0 := Tryz.underlying0
  a0 := Tryz.isAgg0
  z0 := Tryz.sizeOf0
  v0 := Tryz.zeroValue0
  t3 := Tryz.underlying3
  a3 := Tryz.isAgg3
  z3 := Tryz.sizeOf3
  v3 := Tryz.zeroValue3
  t9 := Tryz.underlying9
  a9 := Tryz.isAgg9
  z9 := Tryz.sizeOf9
  v9 := Tryz.zeroValue9
  t37 := Tryz.underlying79
  a37 := Tryz.isAgg79
  z37 := Tryz.sizeOf79
  v37 := Tryz.zeroValue79
  t70 := Tryz.underlying78
  a70 := Tryz.isAgg78
  z70 := Tryz.sizeOf78
  v70 := Tryz.zeroValue78
  t72 := Tryz.underlying81
  a72 := Tryz.isAgg81
  z72 := Tryz.sizeOf81
  v72 := Tryz.zeroValue81
  t127 := Tryz.underlying108
  a127 := Tryz.isAgg108
  z127 := Tryz.sizeOf108
  v127 := Tryz.zeroValue108 }
theorem Tryz.Builder_Extra_169 : Builder.Extra Tryz.prog Tryz.lays169_ren := {
  sizeBuilder := by kernel_rfl
  liesBuilder := by kernel_rfl
  t5 := Tryz.underlying5
  a5 := Tryz.isAgg5
  z5 := Tryz.sizeOf5
  v5 := Tryz.zeroValue5
  infoByte := by kernel_rfl
  cellsByte := by kernel_rfl
  sizeByte := by kernel_rfl
  neB5 := by decide }
open Go.RowKit in
theorem Tryz.Builder_String (B b : Nat) (l : List UInt8) (w : World) (h : Lib.IsBuilder 81 5 B b (Lib.byteCells l) w) (h0 : l ≠ []) :
    Calls Tryz.prog 32 #[.pointer (some ⟨b, 0, none⟩)] w fun e w' => e = .returned (.string ⟨l.toArray⟩) ∧ Below B w w' := Any.Builder_String Tryz.lays169 Tryz.Builder_Extra_169 B b l w h h0
open Go.RowKit in
theorem Tryz.Builder_String_empty (B b : Nat) (w : World) (h : Lib.IsBuilder 81 5 B b [] w) (hBw : B ≤ w.heap.size) :
    Calls Tryz.prog 32 #[.pointer (some ⟨b, 0, none⟩)] w fun e w' => e = .returned (.string ⟨#[]⟩) ∧ Below B w w' := Any.Builder_String_empty Tryz.lays169 Tryz.Builder_Extra_169 B b w h hBw
open Go.RowKit in
theorem Tryz.Builder_String_any (B b : Nat) (l : List UInt8) (w : World) (h : Lib.IsBuilder 81 5 B b (Lib.byteCells l) w) (hBw : B ≤ w.heap.size) :
    Calls Tryz.prog 32 #[.pointer (some ⟨b, 0, none⟩)] w fun e w' => e = .returned (.string ⟨l.toArray⟩) ∧ Below B w w' := Any.Builder_String_any Tryz.lays169 Tryz.Builder_Extra_169 B b l w h hBw
end Go.Proofs.YtmclnamgihphcaaGreat
/- plan.word, plan.Text, walked (gen_plt.py, out of RVB). -/
set_option linter.unusedVariables false
set_option linter.unusedSimpArgs false
namespace Go.Proofs.YtmclnamgihphcaaGreat
open Go.RowKit

theorem IsB.keep {B b : Nat} {bs : List Value} {w w' : World} (h : IsB B b bs w) (k : Keeps (fun _ => False) w w') : IsB B b bs w' := by
  have f : ∀ p, Lib.BuilderAt 81 5 B b p bs w → Lib.BuilderAt 81 5 B b p bs w' := fun p h => by
    obtain ⟨hB, v, hbk, hown, hne⟩ := h
    have hx : b < w.heap.size := by
      rcases Nat.lt_or_ge b w.heap.size with h' | h'
      · exact h'
      · simp [Array.getElem?_eq_none h'] at hbk
    exact ⟨hB, v, by rw [k.block b hx id]; exact hbk, k.ownsRow hown (fun _ _ f => f), hne⟩
  rcases h with h | h
  · exact .inl (f _ h)
  · exact .inr (f _ h)
theorem IsB.new (w : World) : IsB w.heap.size w.heap.size (Lib.byteCells []) (w.alloc (.cells #[.pointer none, .slice none 0 0] 81)) :=
  .inl ⟨Nat.le_refl _, .slice none 0 0, heap_alloc_last w _, ⟨rfl, .inl ⟨rfl, rfl⟩⟩, by simp [Value.ownBlock]⟩
theorem Below.keepsB {B : Nat} {w w' : World} (h : Below B w w') : Keeps (fun i => B ≤ i) w w' := ⟨h.os, h.tape, h.output, h.size, fun k hk hn => h.block k (by omega)⟩
def wordF (k : Int) : List UInt8 :=
  if k = 1 then [119, 104, 111, 108, 101]
  else if k = 2 then [115, 116, 111, 112]
  else if k = 3 then [109, 111, 118, 101]
  else if k = 4 then [114, 101, 115, 116, 97, 114, 116]
  else if k = 5 then [114, 101, 115, 101, 116]
  else if k = 6 then [115, 116, 97, 114, 116]
  else if k = 7 then [97, 110, 101, 119]
  else if k = 8 then [104, 101, 108, 108, 111, 115]
  else if k = 9 then [116, 105, 109, 101, 114, 115]
  else [63]
def pieceF (f : ActD) : List UInt8 := wordF f.kind ++ (if f.name = [] then [] else 32 :: f.name) ++ [10]
def textF (fs : List ActD) : List UInt8 := fs.flatMap pieceF
theorem wordF_len (k : Int) : (wordF k).length ≤ 9 := by
  unfold wordF
  repeat' split
  all_goals simp
theorem textF_step {fs : List ActD} {k : Nat} {f : ActD} (hq : fs[k]? = some f) : textF (fs.take (k + 1)) = textF (fs.take k) ++ pieceF f := by
  unfold textF
  rw [List.take_add_one, hq, List.flatMap_append]
  simp
theorem textF_pre (fs : List ActD) (k : Nat) : (textF (fs.take k)).length ≤ (textF fs).length := by
  have : textF fs = textF (fs.take k) ++ textF (fs.drop k) := by unfold textF; rw [← List.flatMap_append, List.take_append_drop]
  rw [this, List.length_append]; omega
set_option maxRecDepth 100000 in
theorem plWord_any (k : Int) (W : ByteArray) (w : World) (hW : Hid (W = ⟨(wordF k).toArray⟩)) : Calls Tryz.prog 31 #[.int .i64 k] w (NewRes (.string W) w) := by
  by_cases h1 : k = 1
  · subst h1
    have e : W = ⟨#[119, 104, 111, 108, 101]⟩ := by rw [hW.out]; rfl
    clear hW
    go_enter Tryz.func31, Tryz.ntmps31
    go_wp2
    go_ret
    exact ⟨by rw [e]; rfl, Keeps.refl _ _⟩
  by_cases h2 : k = 2
  · subst h2
    have e : W = ⟨#[115, 116, 111, 112]⟩ := by rw [hW.out]; rfl
    clear hW
    go_enter Tryz.func31, Tryz.ntmps31
    go_wp2
    go_ret
    exact ⟨by rw [e]; rfl, Keeps.refl _ _⟩
  by_cases h3 : k = 3
  · subst h3
    have e : W = ⟨#[109, 111, 118, 101]⟩ := by rw [hW.out]; rfl
    clear hW
    go_enter Tryz.func31, Tryz.ntmps31
    go_wp2
    go_ret
    exact ⟨by rw [e]; rfl, Keeps.refl _ _⟩
  by_cases h4 : k = 4
  · subst h4
    have e : W = ⟨#[114, 101, 115, 116, 97, 114, 116]⟩ := by rw [hW.out]; rfl
    clear hW
    go_enter Tryz.func31, Tryz.ntmps31
    go_wp2
    go_ret
    exact ⟨by rw [e]; rfl, Keeps.refl _ _⟩
  by_cases h5 : k = 5
  · subst h5
    have e : W = ⟨#[114, 101, 115, 101, 116]⟩ := by rw [hW.out]; rfl
    clear hW
    go_enter Tryz.func31, Tryz.ntmps31
    go_wp2
    go_ret
    exact ⟨by rw [e]; rfl, Keeps.refl _ _⟩
  by_cases h6 : k = 6
  · subst h6
    have e : W = ⟨#[115, 116, 97, 114, 116]⟩ := by rw [hW.out]; rfl
    clear hW
    go_enter Tryz.func31, Tryz.ntmps31
    go_wp2
    go_ret
    exact ⟨by rw [e]; rfl, Keeps.refl _ _⟩
  by_cases h7 : k = 7
  · subst h7
    have e : W = ⟨#[97, 110, 101, 119]⟩ := by rw [hW.out]; rfl
    clear hW
    go_enter Tryz.func31, Tryz.ntmps31
    go_wp2
    go_ret
    exact ⟨by rw [e]; rfl, Keeps.refl _ _⟩
  by_cases h8 : k = 8
  · subst h8
    have e : W = ⟨#[104, 101, 108, 108, 111, 115]⟩ := by rw [hW.out]; rfl
    clear hW
    go_enter Tryz.func31, Tryz.ntmps31
    go_wp2
    go_ret
    exact ⟨by rw [e]; rfl, Keeps.refl _ _⟩
  by_cases h9 : k = 9
  · subst h9
    have e : W = ⟨#[116, 105, 109, 101, 114, 115]⟩ := by rw [hW.out]; rfl
    clear hW
    go_enter Tryz.func31, Tryz.ntmps31
    go_wp2
    go_ret
    exact ⟨by rw [e]; rfl, Keeps.refl _ _⟩
  have e : W = ⟨#[63]⟩ := by rw [hW.out]; unfold wordF; rw [if_neg h1, if_neg h2, if_neg h3, if_neg h4, if_neg h5, if_neg h6, if_neg h7, if_neg h8, if_neg h9]
  have e1 : (k == 1) = false := by simpa using h1
  have e2 : (k == 2) = false := by simpa using h2
  have e3 : (k == 3) = false := by simpa using h3
  have e4 : (k == 4) = false := by simpa using h4
  have e5 : (k == 5) = false := by simpa using h5
  have e6 : (k == 6) = false := by simpa using h6
  have e7 : (k == 7) = false := by simpa using h7
  have e8 : (k == 8) = false := by simpa using h8
  have e9 : (k == 9) = false := by simpa using h9
  clear h1 h2 h3 h4 h5 h6 h7 h8 h9 hW
  go_enter Tryz.func31, Tryz.ntmps31
  go_wp2
  go_ret
  exact ⟨by rw [e]; rfl, Keeps.refl _ _⟩

theorem nil_yes {a : ByteArray} (h : a.data.toList = []) : a.toList.isEmpty = true ∧ (a.toList == []) = true ∧ (a.toList != []) = false := by rw [Lib.toList_data, h]; exact ⟨rfl, rfl, rfl⟩
theorem nil_no {a : ByteArray} (h : a.data.toList ≠ []) : a.toList.isEmpty = false ∧ (a.toList == []) = false ∧ (a.toList != []) = true := by
  rw [Lib.toList_data]
  cases hh : a.data.toList with
  | nil => exact absurd hh h
  | cons => exact ⟨rfl, rfl, rfl⟩
theorem act_one (k : Int) (n : ByteArray) : (#[.int .i64 k, .string n] : Array Value).all (·.oneCell') = true := by simp; exact ⟨rfl, rfl⟩

set_option maxRecDepth 100000 in
set_option maxHeartbeats 8000000 in
theorem plText_any (v : Value) (fs : List ActD) (T : ByteArray) (w : World) (hv : Hid (RowsAt 2 aVals w v fs)) (hl : fs.length ≤ 1000000000) (hz : (textF fs).length ≤ 1000000000) (hT : Hid (T = ⟨(textF fs).toArray⟩)) :
    Calls Tryz.prog 11 #[v] w (NewRes (.string T) w) := by
  obtain ⟨p, c, rfl⟩ := hv.out.slice
  have hz' := Lib.hid hz
  clear hz
  go_enter Tryz.func11, Tryz.ntmps11
  go_wp2_with fail
  have hI0 := Lib.hid (IsB.new w)
  have hK0 : Hid (KeepsT w.heap.size w (w.alloc (.cells #[.pointer none, .slice none 0 0] 81))) := Lib.hid (KeepsT.of ((Keeps.refl _ _).alloc _))
  go_loopw [8] (fun iv wr => ∃ (k : Nat), k ≤ fs.length ∧ iv = .int .i64 k ∧ Hid (IsB w.heap.size w.heap.size (Lib.byteCells (textF (fs.take k))) wr) ∧ Hid (KeepsT w.heap.size w wr)) (fun iv _ => fs.length - (intOf iv).toNat)
  case atStart => exact ⟨0, by omega, rfl, hI0, hK0⟩
  case round =>
    obtain ⟨k, hk, rfl, hI, hKr⟩ := hrel
    by_cases hlk : k < fs.length
    · obtain ⟨g, o, rfl, hrows⟩ := hv.out.open (by omega)
      obtain ⟨f, hq⟩ : ∃ q, fs[k]? = some q := ⟨_, List.getElem?_eq_getElem hlk⟩
      obtain ⟨N, hN⟩ : ∃ N : ByteArray, N = ⟨f.name.toArray⟩ := ⟨_, rfl⟩
      have hstep := Lib.hid (textF_step hq)
      have hb1 := textF_pre fs (k + 1)
      rw [hstep.out, List.length_append] at hb1
      have hwl := wordF_len f.kind
      have hps : (pieceF f).length ≤ 1000000000 := by have := hz'.out; omega
      have sN : N.size ≤ 1000000000 := by
        have e : N.size = f.name.length := by rw [hN]; rfl
        unfold pieceF at hps
        rw [List.length_append, List.length_append] at hps
        split at hps
        · rename_i h; rw [e, h]; simp
        · rw [List.length_cons] at hps; omega
      obtain ⟨U, hU⟩ : ∃ U, textF (fs.take k) = U := ⟨_, rfl⟩
      have hUl : U.length + (pieceF f).length ≤ 1000000000 := by rw [← hU]; have := hz'.out; omega
      rw [hU] at hI hstep
      have hgw : Hid (¬ w.heap.size ≤ g) := Lib.hid (by have := World.block_lt_of_cell? w _ (hrows k f hq 0 _ rfl); have h3 : g < w.heap.size := this; omega)
      have hrw : Hid (wr.rangeAt g (o + k * 2) [.int .i64 f.kind, .string N]) := Lib.hid (by rw [hN]; exact hKr.out.k.rangeAt (hrows k f hq) hgw.out)
      have hNl : Hid (N.data.toList = f.name) := Lib.hid (by rw [hN])
      obtain ⟨WD, hWD⟩ : ∃ W : ByteArray, W = ⟨(wordF f.kind).toArray⟩ := ⟨_, rfl⟩
      have hWl : Hid (WD.data.toList = wordF f.kind) := Lib.hid (by rw [hWD])
      have sWD : WD.size = (wordF f.kind).length := by rw [hWD]; rfl
      have hWD' := Lib.hid hWD
      have hBx : Hid (BlkAt (wr.alloc (.cells #[.int .i64 f.kind, .string N] 53)) wr.heap.size 53 [.int .i64 f.kind, .string N]) := Lib.hid (BlkAt.new _ _ _)
      have hIx : Hid (IsB w.heap.size w.heap.size (Lib.byteCells U) (wr.alloc (.cells #[.int .i64 f.kind, .string N] 53))) := Lib.hid (hI.out.keep ((Keeps.refl _ _).alloc _))
      have hKx : Hid (KeepsT w.heap.size w (wr.alloc (.cells #[.int .i64 f.kind, .string N] 53))) := Lib.hid (hKr.out.trans (KeepsT.of ((Keeps.refl _ _).alloc _)))
      have m1 : (0 : Int) ≤ (k : Int) := by omega
      have m2 : (k : Int) < (fs.length : Int) := by omega
      have hpl : (pieceF f).length = (wordF f.kind).length + (if f.name = [] then [] else 32 :: f.name).length + 1 := by unfold pieceF; rw [List.length_append, List.length_append]; rfl
      clear hrows hN hWD hq hI hI0 hK0 hU hb1 hps
      have c0 := hBx.out.cell 0 _ rfl
      go_upto_region 5 with (first | ((with_reducible refine at_slot 11 ?_); refine wpList_load_mid rfl 53 (.tmp 10) rfl g (o + k * 2) rfl [.int .i64 f.kind, .string N] _ hrw.out Tryz.underlying53 rfl actInfo ?_) | ((with_reducible refine at_store 5 ?_); refine wpList_store_new rfl 53 (.tmp 5) (.tmp 11) rfl _ #[.int .i64 f.kind, .string N] rfl rfl actInfo rfl (act_one _ _) ?_))
      generalize hgx : wr.heap.size = gx at hBx c0 ⊢
      generalize hWx : wr.alloc (.cells #[.int .i64 f.kind, .string N] 53) = Wx at hBx hIx hKx c0 ⊢
      clear hgx hWx hrw hKr
      go_wp2_with fail
      refine (plWord_any f.kind WD _ hWD').mono ?_
      rintro e w4 ⟨rfl, k4⟩
      have hI4 := Lib.hid (hIx.out.keep k4)
      have hK4 := Lib.hid (hKx.out.trans (KeepsT.of k4))
      have hB4 := Lib.hid (hBx.out.keep k4 id)
      clear k4 hBx hIx hKx c0
      go_wp2_with fail
      refine (writeString_any _ _ U WD _ hI4.out (by omega) (by have := hK4.out.k.size; omega)).mono ?_
      rintro e w5 ⟨rfl, i5, k5⟩
      have hI5 := Lib.hid i5
      have hK5 := Lib.hid (hK4.out.trans k5)
      have hB5 := Lib.hid (k5.blk hB4.out (by decide) (by decide))
      clear i5 k5 hI4 hK4 hB4
      have c1 := hB5.out.cell 1 _ rfl
      by_cases hn0 : f.name = []
      · have hNn := nil_yes (hNl.out.trans hn0)
        obtain ⟨z1, z2, z3⟩ := hNn
        rw [if_pos hn0] at hpl
        have hlenW : (U ++ WD.data.toList).length + (⟨#[10]⟩ : ByteArray).size ≤ 1000000000 := by
          have e3 : WD.data.toList.length = WD.size := by simp
          have e4 : (⟨#[10]⟩ : ByteArray).size = 1 := rfl
          rw [List.length_append, e3, e4]
          simp only [List.length_nil] at hpl; omega
        have hfin : Hid (textF (fs.take (k + 1)) = U ++ WD.data.toList ++ [10]) := Lib.hid (by rw [hstep.out, hWl.out]; unfold pieceF; rw [if_pos hn0]; simp)
        clear hn0
        go_wp2_with fail
        refine (writeString_any _ _ _ ⟨#[10]⟩ _ hI5.out hlenW (by have := hK5.out.k.size; omega)).mono ?_
        rintro e w6 ⟨rfl, i6, k6⟩
        have hI6 := Lib.hid i6
        have hK6 := Lib.hid (hK5.out.trans k6)
        clear i6 k6 hI5 hK5 hB5 c1
        go_wp2_with fail
        exact ⟨⟨k + 1, by omega, by go_num, by rw [hfin.out]; exact hI6, hK6⟩, by simp [intOf]; omega⟩
      · have hNn := nil_no (fun e => hn0 (hNl.out.symm.trans e))
        obtain ⟨z1, z2, z3⟩ := hNn
        rw [if_neg hn0] at hpl
        have eN : N.size = f.name.length := by rw [← hNl.out]; simp
        obtain ⟨T3, h3⟩ : ∃ T : ByteArray, T = ⟨#[32]⟩ ++ N := ⟨_, rfl⟩
        have h3' := Lib.hid h3
        have s3 : T3.size = 1 + N.size := by rw [h3, ByteArray.size_append]; rfl
        have hT3l : Hid (T3.data.toList = 32 :: f.name) := Lib.hid (by rw [h3, ← hNl.out]; simp)
        clear h3
        have hlenN : (U ++ WD.data.toList).length + T3.size ≤ 1000000000 := by
          have e3 : WD.data.toList.length = WD.size := by simp
          have e4 := s3
          rw [List.length_append, e3, e4]
          simp only [List.length_cons] at hpl; omega
        have hlenW : (U ++ WD.data.toList ++ T3.data.toList).length + (⟨#[10]⟩ : ByteArray).size ≤ 1000000000 := by
          have e3 : WD.data.toList.length = WD.size := by simp
          have e4 : T3.data.toList.length = 1 + N.size := by rw [← s3]; simp
          have e5 : (⟨#[10]⟩ : ByteArray).size = 1 := rfl
          rw [List.length_append, List.length_append, e3, e4, e5]
          simp only [List.length_cons] at hpl; omega
        have hfin : Hid (textF (fs.take (k + 1)) = U ++ WD.data.toList ++ T3.data.toList ++ [10]) := Lib.hid (by rw [hstep.out, hWl.out]; unfold pieceF; rw [if_neg hn0, hT3l.out]; simp)
        clear hn0
        go_wp2_with fail
        rw [← h3'.out]
        refine (writeString_any _ _ _ T3 _ hI5.out hlenN (by have := hK5.out.k.size; omega)).mono ?_
        rintro e w6 ⟨rfl, i6, k6⟩
        have hI6 := Lib.hid i6
        have hK6 := Lib.hid (hK5.out.trans k6)
        clear i6 k6 hI5 hK5 hB5 c1
        go_wp2_with fail
        refine (writeString_any _ _ _ ⟨#[10]⟩ _ hI6.out hlenW (by have := hK6.out.k.size; omega)).mono ?_
        rintro e w7 ⟨rfl, i7, k7⟩
        have hI7 := Lib.hid i7
        have hK7 := Lib.hid (hK6.out.trans k7)
        clear i7 k7 hI6 hK6
        go_wp2_with fail
        exact ⟨⟨k + 1, by omega, by go_num, by rw [hfin.out]; exact hI7, hK7⟩, by simp [intOf]; omega⟩
    · obtain rfl : k = fs.length := by omega
      have hx2 : textF (fs.take fs.length) = textF fs := by rw [List.take_length]
      rw [hx2] at hI
      clear hlk hk hI0 hK0 hx2
      go_wp2_with fail
      refine (Tryz.Builder_String_any _ _ _ _ hI.out (by have := hKr.out.k.size; omega)).mono ?_
      rintro e w3 ⟨rfl, b3⟩
      have b3' := Lib.hid b3
      clear b3
      rw [← hT.out]
      go_wp2_with fail
      go_ret
      exact ⟨rfl, ((hKr.out.k.trans (Below.keepsB b3'.out)).mono (fun i hi => .inr hi))⟩
end Go.Proofs.YtmclnamgihphcaaGreat
