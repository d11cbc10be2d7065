/- The small functions of parse, walked: a word's verb, a word's head, a row that is there, a value that is right, a number. -/
import Derived.Test.YtfflgbpppcfamaaDoorZRA
import Derived.Test.YtfflgbpppcfamaaDoorSCL
import Derived.Test.YtfflgbpppcfamaaDoorTK
namespace Go.Proofs.YtfflgbpppcfamaaDoor
open Go.RowKit

theorem verbsInfo : (Tryd.prog.info? 87).map (·.size) = some 10 := by kernel_rfl
theorem lineInfo : (Tryd.prog.info? 23).map (·.size) = some 4 := by kernel_rfl
theorem cmdInfo : (Tryd.prog.info? 25).map (·.size) = some 6 := by kernel_rfl
/-- the table of verbs, in memory -/
def verbVals : List Value := verbsL.map strv
def VerbsOk (w : World) : Prop := w.rangeAt 0 0 verbVals
theorem idx_verb0 : ∀ w : World, (Instr.index 87 (.agg verbVals.toArray) (.int .i64 0)).run Tryd.prog w = .ok (strv []) w := fun _ => by kernel_rfl
theorem idx_verb1 : ∀ w : World, (Instr.index 87 (.agg verbVals.toArray) (.int .i64 1)).run Tryd.prog w = .ok (strv [115, 101, 116]) w := fun _ => by kernel_rfl
theorem idx_verb2 : ∀ w : World, (Instr.index 87 (.agg verbVals.toArray) (.int .i64 2)).run Tryd.prog w = .ok (strv [100, 101, 108, 101, 116, 101]) w := fun _ => by kernel_rfl
theorem idx_verb3 : ∀ w : World, (Instr.index 87 (.agg verbVals.toArray) (.int .i64 3)).run Tryd.prog w = .ok (strv [115, 104, 111, 119]) w := fun _ => by kernel_rfl
theorem idx_verb4 : ∀ w : World, (Instr.index 87 (.agg verbVals.toArray) (.int .i64 4)).run Tryd.prog w = .ok (strv [99, 111, 109, 112, 97, 114, 101]) w := fun _ => by kernel_rfl
theorem idx_verb5 : ∀ w : World, (Instr.index 87 (.agg verbVals.toArray) (.int .i64 5)).run Tryd.prog w = .ok (strv [99, 104, 101, 99, 107]) w := fun _ => by kernel_rfl
theorem idx_verb6 : ∀ w : World, (Instr.index 87 (.agg verbVals.toArray) (.int .i64 6)).run Tryd.prog w = .ok (strv [99, 111, 109, 109, 105, 116]) w := fun _ => by kernel_rfl
theorem idx_verb7 : ∀ w : World, (Instr.index 87 (.agg verbVals.toArray) (.int .i64 7)).run Tryd.prog w = .ok (strv [99, 111, 109, 109, 105, 116, 45, 99, 111, 110, 102, 105, 114, 109, 101, 100]) w := fun _ => by kernel_rfl
theorem idx_verb8 : ∀ w : World, (Instr.index 87 (.agg verbVals.toArray) (.int .i64 8)).run Tryd.prog w = .ok (strv [99, 111, 110, 102, 105, 114, 109]) w := fun _ => by kernel_rfl
theorem idx_verb9 : ∀ w : World, (Instr.index 87 (.agg verbVals.toArray) (.int .i64 9)).run Tryd.prog w = .ok (strv [114, 111, 108, 108, 98, 97, 99, 107]) w := fun _ => by kernel_rfl
set_option maxRecDepth 100000 in
theorem idx_verbs (k : Nat) (x : List UInt8) (h : verbsL[k]? = some x) (w : World) : (Instr.index 87 (.agg verbVals.toArray) (.int .i64 (k : Nat))).run Tryd.prog w = .ok (strv x) w := by
  have hk : k < 10 := (List.getElem?_eq_some_iff.1 h).1
  rcases (show k = 0 ∨ k = 1 ∨ k = 2 ∨ k = 3 ∨ k = 4 ∨ k = 5 ∨ k = 6 ∨ k = 7 ∨ k = 8 ∨ k = 9 by omega) with rfl | rfl | rfl | rfl | rfl | rfl | rfl | rfl | rfl | rfl <;> have h := Option.some.inj h <;> subst h
  · exact idx_verb0 w
  · exact idx_verb1 w
  · exact idx_verb2 w
  · exact idx_verb3 w
  · exact idx_verb4 w
  · exact idx_verb5 w
  · exact idx_verb6 w
  · exact idx_verb7 w
  · exact idx_verb8 w
  · exact idx_verb9 w
theorem VerbsOk.keep {w w' : World} (h : VerbsOk w) (k : Keeps (fun _ => False) w w') : VerbsOk w' := k.rangeAt h id
theorem line_one (h : Int) (N F V : ByteArray) : (#[.int .i64 h, .string N, .string F, .string V] : Array Value).all (·.oneCell') = true := by simp; exact ⟨rfl, rfl, rfl, rfl⟩
theorem cmd_one (a h : Int) (N F V : ByteArray) (n : Int) : (#[.int .i64 a, .int .i64 h, .string N, .string F, .string V, .int .i64 n] : Array Value).all (·.oneCell') = true := by simp; exact ⟨rfl, rfl, rfl, rfl, rfl, rfl⟩

theorem verb_yes {s : List UInt8} {k : Nat} {x : List UInt8} (hx : verbsL[k]? = some x) (hno : ∀ j, j < k → verbsL[j]? ≠ some s) (he : x = s) : verbD s = k := by
  have : verbsL.findIdx? (· == s) = some k := by
    rw [List.findIdx?_eq_some_iff_getElem]
    obtain ⟨hk, e⟩ := List.getElem?_eq_some_iff.1 hx
    refine ⟨hk, by simp [e, he], fun j hj => ?_⟩
    have := hno j hj
    rw [List.getElem?_eq_getElem (by omega)] at this
    simpa using fun e => this (by rw [e])
  unfold verbD; rw [this]; rfl
theorem verb_no {s : List UInt8} (hno : ∀ j, j < 10 → verbsL[j]? ≠ some s) : verbD s = 0 := by
  have : verbsL.findIdx? (· == s) = none := by
    rw [List.findIdx?_eq_none_iff]
    intro x hx
    obtain ⟨j, hj⟩ := List.getElem?_of_mem hx
    have := hno j (List.getElem?_eq_some_iff.1 hj).1
    rw [hj] at this
    simpa using fun e => this (by rw [e])
  unfold verbD; rw [this]; rfl

set_option maxRecDepth 100000 in
set_option maxHeartbeats 1000000 in
theorem verbOf_any (s : ByteArray) (r : Nat) (w : World) (hv : Hid (VerbsOk w)) (hr : Hid (verbD s.data.toList = r)) :
    Calls Tryd.prog 29 #[.string s] w fun e w' => e = .returned (.int .i64 r) ∧ w = w' := by
  go_enter Tryd.func29, Tryd.ntmps29
  go_wp2_with ((with_reducible refine at_slot 5 ?_); refine wpList_load_mid rfl 87 (.global 0) rfl 0 0 rfl verbVals _ hv.out Tryd.underlying87 rfl verbsInfo ?_)
  go_loop [6] (fun i => ∃ k : Nat, k ≤ 10 ∧ i = .int .i64 k ∧ Hid (∀ j, j < k → verbsL[j]? ≠ some s.data.toList)) (fun i => 10 - (intOf i).toNat)
  case atStart => exact ⟨0, by omega, rfl, Lib.hid (fun _ h => by omega)⟩
  case round =>
    obtain ⟨k, hk, rfl, hno⟩ := hrel
    by_cases hlt : k < 10
    · obtain ⟨x, hx⟩ : ∃ x, verbsL[k]? = some x := ⟨_, List.getElem?_eq_getElem (show k < verbsL.length from hlt)⟩
      obtain ⟨X, hX⟩ : ∃ X : ByteArray, X = ⟨x.toArray⟩ := ⟨_, rfl⟩
      have hi : ∀ w : World, (Instr.index 87 (.agg verbVals.toArray) (.int .i64 (k : Nat))).run Tryd.prog w = .ok (.string X) w := by rw [hX]; exact idx_verbs k x hx
      have hXl : X.toList = x := by rw [hX, Lib.toList_data]
      by_cases he : x = s.data.toList
      · have e1 : (X.toList == s.toList) = true := by rw [hXl, Lib.toList_data, he]; simp
        have hz : Hid (r = k) := Lib.hid (by rw [← hr.out]; exact verb_yes hx hno.out he)
        clear hX hXl hno he hx
        go_wp2
        go_ret
        exact ⟨by rw [hz.out]; rfl, rfl⟩
      · have e1 : (X.toList == s.toList) = false := by rw [hXl, Lib.toList_data]; simpa using he
        have hno' : Hid (∀ j, j < k + 1 → verbsL[j]? ≠ some s.data.toList) := Lib.hid (fun j hj => by
          by_cases e : j = k
          · subst e; rw [hx]; intro h; injection h with h; exact he h
          · exact hno.out j (by omega))
        clear hX hXl hno he hx
        go_wp2
        go_round
        case rel => exact ⟨k + 1, by omega, by go_num, hno'⟩
        case measure => simp [intOf]; omega
    · obtain rfl : k = 10 := by omega
      have hz : Hid (r = 0) := Lib.hid (by rw [← hr.out]; exact verb_no hno.out)
      clear hno
      go_wp2
      go_ret
      exact ⟨by rw [hz.out]; rfl, rfl⟩

set_option maxRecDepth 100000 in
theorem headOf_any (s : ByteArray) (r : Int) (w : World) (hr : Hid (headD s.data.toList = r)) :
    Calls Tryd.prog 49 #[.string s] w fun e w' => e = .returned (.tuple #[.int .i64 r, .bool (decide (r ≠ 0))]) ∧ w = w' := by
  have hq := hr.out
  unfold headD at hq
  by_cases h1 : s.data.toList = areaW
  · rw [if_pos h1] at hq
    have e1 : (s.toList == [97, 114, 101, 97]) = true := by rw [Lib.toList_data, h1]; rfl
    subst hq; clear hr h1
    go_enter Tryd.func49, Tryd.ntmps49
    go_wp2
    go_ret2
    exact ⟨rfl, rfl⟩
  · rw [if_neg h1] at hq
    have e1 : (s.toList == [97, 114, 101, 97]) = false := by rw [Lib.toList_data]; simpa [areaW] using h1
    by_cases h2 : s.data.toList = faceW
    · rw [if_pos h2] at hq
      have e2 : (s.toList == [105, 110, 116, 101, 114, 102, 97, 99, 101]) = true := by rw [Lib.toList_data, h2]; rfl
      subst hq; clear hr h1 h2
      go_enter Tryd.func49, Tryd.ntmps49
      go_wp2
      go_ret2
      exact ⟨rfl, rfl⟩
    · rw [if_neg h2] at hq
      have e2 : (s.toList == [105, 110, 116, 101, 114, 102, 97, 99, 101]) = false := by rw [Lib.toList_data]; simpa [faceW] using h2
      subst hq; clear hr h1 h2
      go_enter Tryd.func49, Tryd.ntmps49
      go_wp2
      go_ret2
      exact ⟨rfl, rfl⟩

theorem find0 (head : Int) (nm : ByteArray) (w : World) (h : Hid (findD head nm.data.toList = none)) :
    Calls Tryd.prog 55 #[.int .i64 head, .string nm] w fun e w' => e = .returned (.tuple #[.agg #[.int .i64 0, .string ⟨#[]⟩, .int .i64 0, .int .i64 0, .int .i64 0, .slice none 0 0, .string ⟨#[]⟩, .int .i64 0], .bool false]) ∧ Keeps (fun _ => False) w w' := find_any head nm none w h
theorem find1 (head : Int) (nm : ByteArray) (r : RowD) (N F : ByteArray) (w : World) (h : Hid (findD head nm.data.toList = some r)) (hN : Hid (N = ⟨r.name.toArray⟩)) (hF : Hid (F = ⟨r.df.toArray⟩)) :
    Calls Tryd.prog 55 #[.int .i64 head, .string nm] w fun e w' => ∃ p cc, e = .returned (.tuple #[.agg #[.int .i64 r.head, .string N, .int .i64 r.kind, .int .i64 r.lo, .int .i64 r.hi, .slice p r.cs.length cc, .string F, .int .i64 r.cl], .bool true]) ∧ StrsAt w' (.slice p r.cs.length cc) r.cs ∧ Keeps (fun _ => False) w w' := by
  rw [hN.out, hF.out]; exact find_any head nm (some r) w h

set_option maxRecDepth 100000 in
set_option maxHeartbeats 1000000 in
theorem hasRow_any (h : Int) (N F V : ByteArray) (r : Bool) (w : World) (hr : Hid ((findD h F.data.toList).isSome = r)) :
    Calls Tryd.prog 48 #[.agg #[.int .i64 h, .string N, .string F, .string V]] w (NewRes (.bool r) w) := by
  cases hf : findD h F.data.toList with
  | none =>
    obtain rfl : r = false := by rw [← hr.out, hf]; rfl
    have hf' := Lib.hid hf; clear hf hr
    go_enter Tryd.func48, Tryd.ntmps48
    go_wp2_with fail
    refine (find0 h F _ hf').mono ?_
    rintro e w2 ⟨rfl, k2⟩
    have k2' := Lib.hid k2; clear k2
    go_wp2_with ((with_reducible refine at_store 3 ?_); refine wpList_store_new rfl 90 (.tmp 3) (.tmp 11) rfl _ #[.int .i64 0, .string ⟨#[]⟩, .int .i64 0, .int .i64 0, .int .i64 0, .slice none 0 0, .string ⟨#[]⟩, .int .i64 0] rfl rfl rowInfo rfl (row_one _ _ _ _ _ _ _ _ _ _) ?_)
    go_ret
    exact ⟨rfl, (((Keeps.refl _ _).alloc _).trans k2'.out).alloc _⟩
  | some q =>
    obtain rfl : r = true := by rw [← hr.out, hf]; rfl
    have hf' := Lib.hid hf; clear hf hr
    obtain ⟨M, hM⟩ : ∃ M : ByteArray, M = ⟨q.name.toArray⟩ := ⟨_, rfl⟩
    obtain ⟨D, hD⟩ : ∃ D : ByteArray, D = ⟨q.df.toArray⟩ := ⟨_, rfl⟩
    have hM' := Lib.hid hM; have hD' := Lib.hid hD; clear hM hD
    go_enter Tryd.func48, Tryd.ntmps48
    go_wp2_with fail
    refine (find1 h F q M D _ hf' hM' hD').mono ?_
    rintro e w2 ⟨p, cc, rfl, hst, k2⟩
    have k2' := Lib.hid k2; clear k2 hst
    go_wp2_with ((with_reducible refine at_store 3 ?_); refine wpList_store_new rfl 90 (.tmp 3) (.tmp 11) rfl _ #[.int .i64 q.head, .string M, .int .i64 q.kind, .int .i64 q.lo, .int .i64 q.hi, .slice p q.cs.length cc, .string D, .int .i64 q.cl] rfl rfl rowInfo rfl (row_one _ _ _ _ _ _ _ _ _ _) ?_)
    go_ret
    exact ⟨rfl, (((Keeps.refl _ _).alloc _).trans k2'.out).alloc _⟩

theorem rows_short (r : RowD) {head : Int} {leaf : List UInt8} (h : findD head leaf = some r) : r.cs.length ≤ 1000 := by
  have : ∀ q ∈ tableD, q.cs.length ≤ 1000 := by decide
  exact this r (List.mem_of_find?_eq_some h)
set_option maxRecDepth 100000 in
set_option maxHeartbeats 1000000 in
theorem rightValue_any (h : Int) (N F V : ByteArray) (r : Bool) (w : World) (hs : V.size ≤ 9223372036854775807) (hr : Hid (rightV h F.data.toList V.data.toList = r)) :
    Calls Tryd.prog 47 #[.agg #[.int .i64 h, .string N, .string F, .string V]] w (NewRes (.bool r) w) := by
  have hq := hr.out
  unfold rightV at hq
  cases hf : findD h F.data.toList with
  | none =>
    obtain rfl : r = false := by rw [← hq, hf]
    have hf' := Lib.hid hf; clear hf hr hq
    go_enter Tryd.func47, Tryd.ntmps47
    go_wp2_with fail
    refine (find0 h F _ hf').mono ?_
    rintro e w2 ⟨rfl, k2⟩
    have k2' := Lib.hid k2; clear k2
    go_wp2_with ((with_reducible refine at_store 3 ?_); refine wpList_store_new rfl 90 (.tmp 3) (.tmp 11) rfl _ #[.int .i64 0, .string ⟨#[]⟩, .int .i64 0, .int .i64 0, .int .i64 0, .slice none 0 0, .string ⟨#[]⟩, .int .i64 0] rfl rfl rowInfo rfl (row_one _ _ _ _ _ _ _ _ _ _) ?_)
    go_ret
    exact ⟨rfl, (((Keeps.refl _ _).alloc _).trans k2'.out).alloc _⟩
  | some q =>
    rw [hf] at hq
    have hq' : Hid (rightB q.kind q.lo q.hi q.cs V.data.toList = r) := Lib.hid hq
    have hcl := rows_short q hf
    have hf' := Lib.hid hf; clear hf hr hq
    obtain ⟨M, hM⟩ : ∃ M : ByteArray, M = ⟨q.name.toArray⟩ := ⟨_, rfl⟩
    obtain ⟨D, hD⟩ : ∃ D : ByteArray, D = ⟨q.df.toArray⟩ := ⟨_, rfl⟩
    have hM' := Lib.hid hM; have hD' := Lib.hid hD; clear hM hD
    go_enter Tryd.func47, Tryd.ntmps47
    go_wp2_with fail
    refine (find1 h F q M D _ hf' hM' hD').mono ?_
    rintro e w2 ⟨p, cc, rfl, hst, k2⟩
    have hst' := Lib.hid (hst.alloc (.cells #[.int .i64 q.head, .string M, .int .i64 q.kind, .int .i64 q.lo, .int .i64 q.hi, .slice p q.cs.length cc, .string D, .int .i64 q.cl] 90))
    have hV0 : (w.alloc (.cells #[.int .i64 h, .string N, .string F, .string V] 23)).cell? ⟨w.heap.size, 3, none⟩ = some (.string V) := (BlkAt.new w 23 [.int .i64 h, .string N, .string F, .string V]).cell 3 _ rfl
    have hV2 : (w2.alloc (.cells #[.int .i64 q.head, .string M, .int .i64 q.kind, .int .i64 q.lo, .int .i64 q.hi, .slice p q.cs.length cc, .string D, .int .i64 q.cl] 90)).cell? ⟨w.heap.size, 3, none⟩ = some (.string V) :=
      ((BlkAt.new w 23 [.int .i64 h, .string N, .string F, .string V]).keep (k2.alloc _) id).cell 3 _ rfl
    have k2' := Lib.hid k2; clear k2 hst hV0
    go_wp2_with (first | ((with_reducible refine at_store 3 ?_); refine wpList_store_new rfl 90 (.tmp 3) (.tmp 11) rfl _ #[.int .i64 q.head, .string M, .int .i64 q.kind, .int .i64 q.lo, .int .i64 q.hi, .slice p q.cs.length cc, .string D, .int .i64 q.cl] rfl rfl rowInfo rfl (row_one _ _ _ _ _ _ _ _ _ _) ?_) | ((with_reducible refine at_slot 15 ?_); refine wpList_load_mid_gd (by rfl) 90 (.tmp 3) rfl w2.heap.size 0 rfl [.int .i64 q.head, .string M, .int .i64 q.kind, .int .i64 q.lo, .int .i64 q.hi, .slice p q.cs.length cc, .string D, .int .i64 q.cl] _ (new_rangeb _ _ _) Tryd.underlying90 rfl rowInfo ?_))
    refine (right_any q.head M D q.kind q.lo q.hi q.cl p cc q.cs V r _ hs hcl hst' hq').mono ?_
    rintro e w3 ⟨rfl, k3⟩
    have k3' := Lib.hid k3; clear k3
    go_wp2
    go_ret
    exact ⟨rfl, ((((Keeps.refl _ _).alloc _).trans k2'.out).alloc _).trans k3'.out⟩
end Go.Proofs.YtfflgbpppcfamaaDoor
