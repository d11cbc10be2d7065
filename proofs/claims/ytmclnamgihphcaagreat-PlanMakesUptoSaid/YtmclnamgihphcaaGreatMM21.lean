/- slices.SortFunc at actions of the call's own: they are sorted. -/
import Derived.Test.YtmclnamgihphcaaGreatMM20
import Derived.Lib.SliceRun
set_option linter.unusedVariables false
set_option linter.unusedSimpArgs false
set_option linter.unusedVariables false
set_option linter.unusedSimpArgs false
namespace Go.Proofs.YtmclnamgihphcaaGreat
open Go.RowKit Go.Sort Go.Shelf

instance : Inhabited ActD := ⟨⟨0, []⟩⟩
theorem swoA : SWO (ltOf cmpA) where
  irrefl x := by
    rw [Bool.eq_false_iff]
    intro h
    rw [ltA] at h
    rcases h with h | ⟨-, h⟩
    · omega
    · rw [bl_irr] at h; cases h
  trans x y z h1 h2 := by
    rw [ltA] at *
    rcases h1 with h1 | ⟨e1, h1⟩
    · rcases h2 with h2 | ⟨e2, h2⟩
      · left; omega
      · left; omega
    · rcases h2 with h2 | ⟨e2, h2⟩
      · left; omega
      · right; exact ⟨e1.trans e2, bl_trans h1 h2⟩
  ntrans x y z h1 h2 := by
    rw [Bool.eq_false_iff] at *
    intro h
    rw [ne_eq, ltA] at h1 h2
    rw [ltA] at h
    have k1 : ¬ x.kind < y.kind := fun e => h1 (.inl e)
    have k2 : ¬ y.kind < z.kind := fun e => h2 (.inl e)
    rcases h with h | ⟨e, h⟩
    · omega
    · have e1 : x.kind = y.kind := by omega
      have e2 : y.kind = z.kind := by omega
      have n1 : Op.bytesLess x.name y.name = false := Bool.eq_false_iff.2 (fun e => h1 (.inr ⟨e1, e⟩))
      have n2 : Op.bytesLess y.name z.name = false := Bool.eq_false_iff.2 (fun e => h2 (.inr ⟨e2, e⟩))
      cases h3 : Op.bytesLess y.name x.name with
      | true =>
        have := bl_trans h3 h
        rw [n2] at this; cases this
      | false =>
        have := bl_tri n1 h3
        rw [← this] at n2
        rw [n2] at h; cases h
theorem totA (x y : ActD) (h1 : ltOf cmpA x y = false) (h2 : ltOf cmpA y x = false) : x = y := by
  rw [Bool.eq_false_iff, ne_eq, ltA] at h1 h2
  have e1 : x.kind = y.kind := by
    have k1 : ¬ x.kind < y.kind := fun e => h1 (.inl e)
    have k2 : ¬ y.kind < x.kind := fun e => h2 (.inl e)
    omega
  have e2 : x.name = y.name := bl_tri (Bool.eq_false_iff.2 (fun e => h1 (.inr ⟨e1, e⟩))) (Bool.eq_false_iff.2 (fun e => h2 (.inr ⟨e1.symm, e⟩)))
  cases x; cases y; simp_all
def sortA (L : List ActD) : List ActD := L.mergeSort fun x y => !(ltOf cmpA) y x
theorem sortA_perm (L : List ActD) : (sortA L).Perm L := List.mergeSort_perm _ _
theorem sortA_len (L : List ActD) : (sortA L).length = L.length := (sortA_perm L).length_eq
theorem flat_rows (L : List ActD) : flatK aVals 2 L.toArray = (rowCells aVals L).toArray := by
  apply Array.ext_getElem?
  intro t
  by_cases ht : t < L.length * 2
  · have h1 : (flatK aVals 2 L.toArray)[t]? = some ((aVals L.toArray[t / 2]!)[t % 2]!) := by
      have := get_flatK aVals 2 L.toArray t (by simpa using ht)
      have h2 : t < (flatK aVals 2 L.toArray).size := by simpa using ht
      rw [getElem!_pos _ t h2] at this
      rw [Array.getElem?_eq_getElem h2, this]
    rw [h1]
    have hi : t / 2 < L.length := by omega
    have hx : L[t / 2]? = some L[t / 2] := List.getElem?_eq_getElem hi
    have h3 := rowCells_get aVals_len L (t / 2) _ hx (t % 2) (by omega)
    rw [show t / 2 * 2 + t % 2 = t by omega] at h3
    rw [List.getElem?_toArray, h3]
    have h4 : L.toArray[t / 2]! = L[t / 2] := by rw [getElem!_pos L.toArray (t / 2) (by simpa using hi)]; simp
    rw [h4]
    have h5 : t % 2 < (aVals L[t / 2]).length := by rw [aVals_len]; omega
    rw [List.getElem?_eq_getElem h5, getElem!_pos (aVals L[t / 2]) (t % 2) h5]
  · rw [Array.getElem?_eq_none (by simpa using ht), Array.getElem?_eq_none (by rw [List.size_toArray, rowCells_len aVals_len]; omega)]
theorem isAggA (w : World) : (isAgg (Tryz.sortAct_ren.t 24)).run Tryz.prog w = .ok true w := Tryz.isAgg53 w
theorem sizeA (w : World) : (Go.sizeOf (Tryz.sortAct_ren.t 24)).run Tryz.prog w = .ok 2 w := Tryz.sizeOf53 w
set_option maxRecDepth 100000 in
set_option maxHeartbeats 4000000 in
theorem plSort_any (v : Value) (L : List ActD) (w0 w : World) (hO : Hid (OwnR 53 2 aVals w0 w v L)) (hl : L.length ≤ 1000000) :
    Calls Tryz.prog 19 #[v, .func (.func 20) #[] #[]] w fun e w' => e = .returned (.tuple #[]) ∧ OwnR 53 2 aVals w0 w' v (sortA L) ∧ Keeps (fun i => v.ownBlock = some i) w w' := by
  obtain ⟨⟨hlen, hv⟩, hb, hs⟩ := hO.out
  rcases hv with ⟨rfl, h0⟩ | ⟨g, cap, cur, rfl, -, hg, hc1, hc2, hc3, hc4⟩
  · obtain rfl : L = [] := List.eq_nil_of_length_eq_zero h0
    refine (AnyF.slices_SortFunc_none Tryz.sortAct none 0 (.func (.func 20) #[] #[]) w).mono ?_
    rintro e w' ⟨rfl, rfl⟩
    exact ⟨rfl, by rw [show sortA [] = [] by simp [sortA]]; exact hO.out, Keeps.refl _ _⟩
  · have hat := hO.out.at aVals_len
    have hgl : g < w.heap.size := lt_of_block hg
    have eg : ∀ args w, (callFunc 20 args).run Tryz.prog w = .ok (.enter 20 args) w := enters_of Tryz.func20 (by kernel_rfl) rfl
    have hH : HoldsK aVals 2 w g 0 L.toArray := by
      intro j hj
      rw [flat_rows] at hj ⊢
      have hj2 : j < (rowCells aVals L).length := by simpa using hj
      rw [Nat.zero_add]
      constructor
      · have h1 : cur[j]? = some (rowCells aVals L)[j] := by
          have h2 : (cur.toList.take (L.length * 2))[j]? = (rowCells aVals L)[j]? := by rw [hc4]
          rw [List.getElem?_take_of_lt (by rw [rowCells_len aVals_len] at hj2; exact hj2), List.getElem?_eq_getElem hj2] at h2
          simpa using h2
        rw [cell_of_row _ _ _ _ _ _ hg, h1]
        have h3 : (rowCells aVals L).toArray[j]! = (rowCells aVals L)[j] := by rw [getElem!_pos (rowCells aVals L).toArray j hj]; simp
        rw [h3]; rfl
      · have hB : BlkAt w g 53 cur.toList := by unfold BlkAt; simpa using hg
        exact hB.frozen j
    have hcmp : CmpLays Tryz.prog 20 #[] aVals 2 cmpA g 0 L.toArray.size w := fun m os dk _ x y => plCmp_c x.kind y.kind ⟨x.name.toArray⟩ ⟨y.name.toArray⟩ _
    have hcon := AnyQ.slices_SortFunc_total Tryz.sortAct 2 isAggA sizeA aVals aVals_len aVals_one cmpA swoA 20 #[] g 0 cap L.toArray w eg hcmp hH hgl (by simp; omega) totA
    rw [List.size_toArray] at hcon
    refine hcon.mono ?_
    rintro e w' ⟨rfl, n, os, rfl⟩
    have hD : (List.mergeSort L.toArray.toList fun x y => !(ltOf cmpA) y x) = sortA L := rfl
    rw [hD]
    generalize hS : sortA L = S
    have hSl : S.length = L.length := by rw [← hS]; exact sortA_len L
    have hp : ∀ k, k < w.heap.size → (sortWorldK aVals 2 w g 0 n S.toArray os).heap[k]? = (putRowK aVals 2 (Sort.ahead w n) g 0 S.toArray).heap[k]? := fun k hk => by
      show ((putRowK aVals 2 (Sort.ahead w n) g 0 S.toArray).heap ++ os)[k]? = _
      rw [Array.getElem?_append_left (by unfold putRowK; rw [size_putRow]; exact hk)]
    have hblk : (putRowK aVals 2 (Sort.ahead w n) g 0 S.toArray).heap[g]? = some (.cells (putCells id 0 (rowCells aVals S).toArray cur) 53 (0, 0)) := by
      unfold putRowK putRow mapBlock
      rw [flat_rows]
      show (w.heap.modify g _)[g]? = _
      rw [Array.getElem?_modify, if_pos rfl, hg]; rfl
    have hoth : ∀ k, k ≠ g → (putRowK aVals 2 (Sort.ahead w n) g 0 S.toArray).heap[k]? = w.heap[k]? := fun k hk => by
      unfold putRowK putRow mapBlock
      show (w.heap.modify g _)[k]? = _
      rw [Array.getElem?_modify, if_neg (fun e => hk e.symm)]
    have hsz : w.heap.size ≤ (sortWorldK aVals 2 w g 0 n S.toArray os).heap.size := by
      show _ ≤ ((putRowK aVals 2 (Sort.ahead w n) g 0 S.toArray).heap ++ os).size
      rw [Array.size_append]
      unfold putRowK; rw [size_putRow]; exact Nat.le_add_right _ _
    refine ⟨rfl, ⟨⟨by rw [rowCells_len aVals_len, hSl], .inr ⟨g, cap, putCells id 0 (rowCells aVals S).toArray cur, by rw [hSl], Nat.zero_le _, by rw [hp g hgl]; exact hblk, by rw [hSl]; exact hc1, hc2, by unfold putCells; simpa using hc3, ?_⟩⟩, fun k e => hb k e, Nat.le_trans hs hsz⟩, ?_⟩
    · apply List.ext_getElem?
      intro j
      have hrl := rowCells_len aVals_len S
      by_cases hj : j < S.length * 2
      · rw [List.getElem?_take_of_lt hj]
        have hj3 : j < cur.size := by rw [hc3]; rw [hSl] at hj; omega
        have h1 : (putCells id 0 (rowCells aVals S).toArray cur).toList[j]? = some (if 0 ≤ j ∧ j < 0 + (rowCells aVals S).toArray.size then id (rowCells aVals S).toArray[j - 0]! else cur[j]) := by
          unfold putCells
          rw [Array.getElem?_toList, Array.getElem?_mapIdx, Array.getElem?_eq_getElem hj3]; rfl
        rw [h1, if_pos ⟨Nat.zero_le _, by simp; omega⟩]
        have hj4 : j < (rowCells aVals S).toArray.size := by simp; omega
        rw [Nat.sub_zero, getElem!_pos (rowCells aVals S).toArray j hj4, List.getElem?_eq_getElem (by omega)]
        simp
      · rw [List.getElem?_eq_none (by rw [List.length_take]; omega), List.getElem?_eq_none (by omega)]
    · exact ⟨rfl, rfl, rfl, hsz, fun k hk hn => by rw [hp k hk]; exact hoth k (fun e => hn (by rw [e]; rfl))⟩
end Go.Proofs.YtmclnamgihphcaaGreat
/- slices.Compact of actions of which no two neighbours are the same. -/
set_option linter.unusedVariables false
set_option linter.unusedSimpArgs false
namespace Go.Proofs.YtmclnamgihphcaaGreat
open Go.RowKit

theorem act_eql (W : World) (h1 h2 : Int) (n1 n2 : ByteArray) (hz : ¬ (h1 = h2 ∧ n1.toList = n2.toList)) :
    (binOp .eql 53 (.agg #[.int .i64 h1, .string n1]) (.agg #[.int .i64 h2, .string n2])).run Tryz.prog W = .ok (.bool false) W := by
  by_cases e1 : h1 = h2
  · subst e1
    by_cases e2 : n1.toList = n2.toList
    · exact absurd ⟨rfl, e2⟩ hz
    · go_simp
  · go_simp
theorem guardAct (op : BinOp) (x y : Operand) (xs ys : Array Value) (w : World) : (eqGuard op 53 x y (.agg xs) (.agg ys)).run Tryz.prog w = .ok () w := run_eqGuard_agg w op 53 x y xs ys (by kernel_rfl)
def ApartA (L : List ActD) : Prop := ∀ i a b, L[i]? = some a → L[i + 1]? = some b → a ≠ b
theorem apart_nodup {L : List ActD} (h : L.Nodup) : ApartA L := fun i a b ha hb e => by
  subst e
  obtain ⟨h1, e1⟩ := List.getElem?_eq_some_iff.1 ha
  obtain ⟨h2, e2⟩ := List.getElem?_eq_some_iff.1 hb
  exact List.pairwise_iff_getElem.1 h i (i + 1) h1 h2 (by omega) (e1.trans e2.symm)
set_option maxRecDepth 100000 in
set_option maxHeartbeats 4000000 in
theorem plCompact_c (v : Value) (L : List ActD) (w : World) (hv : Hid (RowsAt 2 aVals w v L)) (hl : L.length ≤ 1000000) (hap : Hid (ApartA L)) :
    Calls Tryz.prog 24 #[v] w fun e w' => e = .returned v ∧ Keeps (fun _ => False) w w' := by
  obtain ⟨p, c, rfl⟩ := hv.out.slice
  go_enter Tryz.func24, Tryz.ntmps24
  by_cases h2 : L.length < 2
  · have m1 : (L.length : Int) < 2 := by omega
    clear h2
    go_wp2_with fail
    go_ret
    exact ⟨rfl, Keeps.refl _ _⟩
  · have m1 : ¬ (L.length : Int) < 2 := by omega
    go_wp2_with fail
    go_loopw [3] (fun iv wr => ∃ (k : Nat), 1 ≤ k ∧ k ≤ L.length ∧ iv = .int .i64 k ∧ Hid (Keeps (fun _ => False) w wr)) (fun iv _ => L.length - (intOf iv).toNat)
    case atStart => exact ⟨1, by omega, by omega, rfl, Lib.hid (Keeps.refl _ _)⟩
    case round =>
      obtain ⟨k, hk1, hk, rfl, hkr⟩ := hrel
      by_cases hlk : k < L.length
      · obtain ⟨j, rfl⟩ : ∃ j, k = j + 1 := ⟨k - 1, by omega⟩
        obtain ⟨g, o, rfl, hrows⟩ := hv.out.open (by omega)
        obtain ⟨x, hx⟩ : ∃ x, L[j]? = some x := ⟨_, List.getElem?_eq_getElem (by omega)⟩
        obtain ⟨y, hy⟩ : ∃ x, L[j + 1]? = some x := ⟨_, List.getElem?_eq_getElem hlk⟩
        obtain ⟨XN, hXN⟩ : ∃ N : ByteArray, N = ⟨x.name.toArray⟩ := ⟨_, rfl⟩
        obtain ⟨YN, hYN⟩ : ∃ N : ByteArray, N = ⟨y.name.toArray⟩ := ⟨_, rfl⟩
        have hrx : Hid (wr.rangeAt g (o + j * 2) [.int .i64 x.kind, .string XN]) := Lib.hid (by rw [hXN]; exact hkr.out.rangeAt (hrows j x hx) id)
        have hry : Hid (wr.rangeAt g (o + (j + 1) * 2) [.int .i64 y.kind, .string YN]) := Lib.hid (by rw [hYN]; exact hkr.out.rangeAt (hrows (j + 1) y hy) id)
        have hne : Hid (¬ (y.kind = x.kind ∧ YN.toList = XN.toList)) := Lib.hid (fun h => by
          refine hap.out j x y hx hy ?_
          have e2 : x.name = y.name := by
            have := h.2
            rw [Lib.toList_data, Lib.toList_data, hXN, hYN] at this
            exact this.symm
          have e1 := h.1
          cases x; cases y; simp_all)
        have n1 : (0 : Int) ≤ ((j + 1 : Nat) : Int) := by omega
        have n2 : ((j + 1 : Nat) : Int) < (L.length : Int) := by omega
        have n3 : (0 : Int) ≤ (j : Int) := by omega
        have n5 : (0 : Int) ≤ (j : Int) + 1 := by omega
        have n6 : (j : Int) + 1 < (L.length : Int) := by omega
        have n4 : (j : Int) < (L.length : Int) := by omega
        have hwj : IntKind.i64.wrap (j : Int) = (j : Int) := by simp [IntKind.wrap, IntKind.bits, IntKind.signed]; omega
        clear hXN hYN hrows hx hy
        go_upto_region 6 with fail
        refine wp_region_noPanic ?_
        refine wp_region_held_drew (S := (fun W => Keeps (fun _ => False) wr W)) (by kernel_rfl) (((Keeps.refl _ _).drew)) (fun hHeld => ?_)
        refine tk 0 rfl ?_
        refine tk 1 rfl ?_
        refine tk 2 rfl ?_
        refine tkL 3 rfl (yieldsIf_load_mid (by rfl) 53 (.tmp 18) rfl g (o + (j + 1) * 2) rfl [.int .i64 y.kind, .string YN] _ (fun _ s => s.rangeAt hry.out id) Tryz.underlying53 rfl actInfo) ?_
        refine tk 4 rfl ?_
        refine tk 5 rfl ?_
        refine tk 6 rfl ?_
        refine tk 7 rfl ?_
        refine tkL 8 rfl (yieldsIf_load_mid (by rfl) 53 (.tmp 23) rfl g (o + j * 2) rfl [.int .i64 x.kind, .string XN] _ (fun _ s => s.rangeAt hrx.out id) Tryz.underlying53 rfl actInfo) ?_
        refine tk 9 (v := .bool false) (hy := fun wS hSw => by
          have hl := act_eql wS y.kind x.kind YN XN hne.out
          unfold execOp
          simp only [Act.eval, Array.getD_eq_getD_getElem?, List.getElem?_toArray, List.getElem?_cons_zero, List.getElem?_cons_succ, Option.getD_some, Sem.run_bind, Sem.run_pure, Result.andThen_ok, guardAct, hl]) rfl ?_
        refine wpAnyH_done (by kernel_rfl) (NoPanic.normal ?_) _
        have hKz := Lib.hid (hkr.out.trans hHeld)
        clear hHeld
        go_wp2_with fail
        exact ⟨⟨j + 1 + 1, by omega, by omega, by go_num, hKz⟩, by simp [intOf]; omega⟩
      · obtain rfl : k = L.length := by omega
        go_wp2_with fail
        go_ret
        exact ⟨rfl, hkr.out⟩
end Go.Proofs.YtmclnamgihphcaaGreat
/- slices.Compact of actions, in general: plain part, rows in memory. -/
set_option linter.unusedVariables false
set_option linter.unusedSimpArgs false
namespace Go.Proofs.YtmclnamgihphcaaGreat
open Go.RowKit

def sameA (a b : ActD) : Bool := decide (a.kind = b.kind) && decide (a.name = b.name)
theorem sameA_iff {a b : ActD} : sameA a b = true ↔ a = b := by
  unfold sameA
  simp only [Bool.and_eq_true, decide_eq_true_eq]
  constructor
  · rintro ⟨h1, h2⟩; cases a; cases b; simp_all
  · rintro rfl; exact ⟨rfl, rfl⟩
def ddF (p : ActD) : List ActD → List ActD
  | [] => []
  | b :: r => (if sameA b p = true then [] else [b]) ++ ddF b r
def compactL : List ActD → List ActD
  | [] => []
  | a :: r => a :: ddF a r
theorem dd_step {x y : ActD} : ∀ (j : Nat) (p : ActD) (r : List ActD), (p :: r)[j]? = some x → (p :: r)[j + 1]? = some y → ddF p (r.take (j + 1)) = ddF p (r.take j) ++ (if sameA y x = true then [] else [y]) := by
  intro j
  induction j with
  | zero =>
    intro p r hx hy
    simp at hx
    subst hx
    cases r with
    | nil => simp at hy
    | cons b r =>
      simp at hy
      subst hy
      simp [ddF]
  | succ j ih =>
    intro p r hx hy
    cases r with
    | nil => simp at hx
    | cons b r =>
      have h := ih b r (by simpa using hx) (by simpa using hy)
      rw [List.take_succ_cons, List.take_succ_cons, ddF, ddF, h, List.append_assoc]
theorem compact_step {L : List ActD} {j : Nat} {x y : ActD} (hx : L[j]? = some x) (hy : L[j + 1]? = some y) : compactL (L.take (j + 2)) = compactL (L.take (j + 1)) ++ (if sameA y x = true then [] else [y]) := by
  cases L with
  | nil => simp at hx
  | cons a r =>
    rw [List.take_succ_cons, List.take_succ_cons, compactL, compactL, dd_step j a r hx hy]; rfl
theorem compact_one (L : List ActD) : compactL (L.take 1) = L.take 1 := by cases L <;> rfl
theorem rowCells_setA (v : ActD) : ∀ (M : List ActD) (i : Nat), ((rowCells aVals M).set (i * 2) (.int .i64 v.kind)).set (i * 2 + 1) (strv v.name) = rowCells aVals (M.set i v) := by
  intro M
  induction M with
  | nil => intro i; simp [rowCells]
  | cons m M ih =>
    intro i
    have e : rowCells aVals (m :: M) = .int .i64 m.kind :: strv m.name :: rowCells aVals M := rfl
    rw [e]
    cases i with
    | zero => rfl
    | succ i =>
      rw [show (i + 1) * 2 = i * 2 + 1 + 1 by omega, show i * 2 + 1 + 1 + 1 = (i * 2 + 1) + 1 + 1 by omega]
      rw [List.set_cons_succ, List.set_cons_succ, List.set_cons_succ, List.set_cons_succ, ih i]
      rfl
theorem rowCells_takeA : ∀ (M : List ActD) (k : Nat), (rowCells aVals M).take (k * 2) = rowCells aVals (M.take k) := by
  intro M
  induction M with
  | nil => intro k; simp [rowCells]
  | cons m M ih =>
    intro k
    cases k with
    | zero => simp [rowCells]
    | succ k =>
      have e : rowCells aVals (m :: M) = .int .i64 m.kind :: strv m.name :: rowCells aVals M := rfl
      rw [e, show (k + 1) * 2 = k * 2 + 1 + 1 by omega, List.take_succ_cons, List.take_succ_cons, ih k]
      rfl
theorem ownA {w0 w : World} {g n c : Nat} {M : List ActD} (h : OwnR 53 2 aVals w0 w (.slice (some ⟨g, 0, none⟩) n c) M) : ∃ cur : List Value, BlkAt w g 53 cur ∧ n = M.length ∧ M.length ≤ c ∧ c ≤ maxLen ∧ cur.length = c * 2 ∧ cur.take (M.length * 2) = rowCells aVals M := by
  obtain ⟨⟨hlen, hv⟩, hb, hs⟩ := h
  rw [rowCells_len aVals_len] at hlen
  rcases hv with ⟨e, -⟩ | ⟨g2, cap, cur, e, -, hg, h1, h2, h3, h4⟩
  · injection e with e1; cases e1
  · injection e with e1 e2 e3
    injection e1 with e1
    injection e1 with e4
    subst e4; subst e3; subst e2
    exact ⟨cur.toList, by unfold BlkAt; simpa using hg, rfl, h1, h2, by simpa using h3, h4⟩
theorem ownA_of {w0 w : World} {g c : Nat} {M : List ActD} {cur : List Value} (hB : BlkAt w g 53 cur) (h1 : M.length ≤ c) (h2 : c ≤ maxLen) (h3 : cur.length = c * 2) (h4 : cur.take (M.length * 2) = rowCells aVals M) (h0 : w0.heap.size ≤ g) (hs : w0.heap.size ≤ w.heap.size) : OwnR 53 2 aVals w0 w (.slice (some ⟨g, 0, none⟩) M.length c) M :=
  ⟨⟨by rw [rowCells_len aVals_len], .inr ⟨g, c, cur.toArray, rfl, Nat.zero_le _, hB, h1, h2, by simpa using h3, by simpa using h4⟩⟩, fun k e => by
    have e : some g = some k := e
    rw [← Option.some.inj e]; exact h0, hs⟩
theorem setA {w0 w : World} {g c : Nat} {M : List ActD} (h : OwnR 53 2 aVals w0 w (.slice (some ⟨g, 0, none⟩) M.length c) M) (i : Nat) (x : ActD) (hi : i < M.length) : OwnR 53 2 aVals w0 (w.setCells g (i * 2) [.int .i64 x.kind, strv x.name]) (.slice (some ⟨g, 0, none⟩) M.length c) (M.set i x) := by
  obtain ⟨cur, hB, -, h1, h2, h3, h4⟩ := ownA h
  have hB2 : BlkAt (w.setCells g (i * 2) [.int .i64 x.kind, strv x.name]) g 53 ((cur.set (i * 2) (.int .i64 x.kind)).set (i * 2 + 1) (strv x.name)) := (hB.set (i * 2) _).set (i * 2 + 1) _
  have := ownA_of (w0 := w0) (M := M.set i x) hB2 (by simpa using h1) h2 (by simpa using h3) (by rw [List.length_set, List.take_set, List.take_set, h4, rowCells_setA]) (h.2.1 g rfl) (Nat.le_trans h.2.2 (Keeps.setCells (F := fun j => j = g) (.inl rfl) _ _ _ (Keeps.refl _ _)).size)
  simpa using this
theorem take_set_one {M : List ActD} {k : Nat} (h : k < M.length) (y : ActD) : (M.set k y).take (k + 1) = M.take k ++ [y] := by
  rw [List.take_add_one, List.getElem?_set, if_pos rfl, if_pos h, List.take_set, List.set_eq_of_length_le (by rw [List.length_take]; omega)]; rfl
theorem blk_sets {g : Nat} {t : TypeId} : ∀ (Z : List Value) (o : Nat) (w : World) (cur : List Value), BlkAt w g t cur → ∃ cur', BlkAt (w.setCells g o Z) g t cur' ∧ cur'.length = cur.length ∧ cur'.take o = cur.take o := by
  intro Z
  induction Z with
  | nil => intro o w cur h; exact ⟨cur, h, rfl, rfl⟩
  | cons z Z ih =>
    intro o w cur h
    obtain ⟨cur', h1, h2, h3⟩ := ih (o + 1) _ _ (h.set o z)
    refine ⟨cur', h1, by simpa using h2, ?_⟩
    have h4 := congrArg (List.take o) h3
    rw [List.take_take, List.take_take, Nat.min_eq_left (by omega), List.take_set, List.set_eq_of_length_le (by rw [List.length_take]; omega)] at h4
    exact h4
theorem cutA {w0 w : World} {g c : Nat} {M : List ActD} (h : OwnR 53 2 aVals w0 w (.slice (some ⟨g, 0, none⟩) M.length c) M) (k : Nat) (hk : k ≤ M.length) (Z : List Value) : OwnR 53 2 aVals w0 (w.setCells g (k * 2) Z) (.slice (some ⟨g, 0, none⟩) k c) (M.take k) := by
  obtain ⟨cur, hB, -, h1, h2, h3, h4⟩ := ownA h
  obtain ⟨cur', b1, b2, b3⟩ := blk_sets Z (k * 2) w cur hB
  have hl : (M.take k).length = k := by rw [List.length_take]; omega
  have := ownA_of (w0 := w0) (M := M.take k) b1 (by omega) h2 (by omega) (by
    rw [hl, b3, ← rowCells_takeA, ← h4, List.take_take, Nat.min_eq_left (by omega)]) (h.2.1 g rfl) (Nat.le_trans h.2.2 (Keeps.setCells (F := fun j => j = g) (.inl rfl) _ _ _ (Keeps.refl _ _)).size)
  rw [hl] at this
  exact this
theorem clearA {w0 w : World} {g c n : Nat} {M : List ActD} (h : OwnR 53 2 aVals w0 w (.slice (some ⟨g, 0, none⟩) M.length c) M) (k : Nat) (hk : k < M.length) (hn : n = M.length - k) : ∃ Z, ∀ ty c2, (Builtin.clear_ #[24] ty #[.slice (some ⟨g, k * 2, none⟩) n c2]).run Tryz.prog w = .ok (.tuple #[]) (w.setCells g (k * 2) Z) := by
  obtain ⟨cur, hB, -, h1, h2, h3, h4⟩ := ownA h
  refine ⟨(Builtin.zeroCells #[.int .i64 0, .string ⟨#[]⟩] n).toList, fun ty c2 => ?_⟩
  have hz : ∀ v ∈ (Builtin.zeroCells #[.int .i64 0, .string ⟨#[]⟩] n).toList, v.oneCell' = true := by
    intro v hv
    unfold Builtin.zeroCells at hv
    simp only [Array.toList_map, List.mem_map, Array.mem_toList_iff, Array.mem_range] at hv
    obtain ⟨i, -, rfl⟩ := hv
    have : i % 2 = 0 ∨ i % 2 = 1 := by omega
    rcases this with e | e <;> simp [e] <;> rfl
  have hl : (Builtin.zeroCells #[.int .i64 0, .string ⟨#[]⟩] n).toList.length = n * 2 := by unfold Builtin.zeroCells; simp
  have hst := run_storeCells_cells (P := Tryz.prog) g (k * 2) (Builtin.zeroCells #[.int .i64 0, .string ⟨#[]⟩] n).toList 0 w
    (fun j hj => by rw [Nat.add_zero, hB.cell (k * 2 + j) _ (List.getElem?_eq_getElem (by omega))]; rfl) (fun j hj => hB.frozen _) hz
  simp only [Nat.add_zero] at hst
  obtain ⟨m, rfl⟩ : ∃ m, n = m + 1 := ⟨n - 1, by omega⟩
  have hzv : ∀ w, (zeroValue 53).run Tryz.prog w = .ok (.agg #[.int .i64 0, .string ⟨#[]⟩]) w := fun w => Tryz.zeroValue53 w
  simp [Builtin.clear_, run_underlying Tryz.underlying24, hzv, Value.cells, hst]
end Go.Proofs.YtmclnamgihphcaaGreat
