/- sameName and Value, walked. -/
import Derived.Test.YtdjmhjgfjbcdkaaCFI
set_option linter.unusedVariables false
set_option linter.unusedSimpArgs false
namespace Go.Proofs.Ytdjmhjgfjbcdkaa
open Go.RowKit

set_option maxRecDepth 100000 in
theorem sameName_any (h1 h2 : Int) (n1 l1 v1 n2 l2 v2 : ByteArray) (r : Bool) (w : World) (hr : Hid ((decide (h1 = h2) && decide (n1.data.toList = n2.data.toList)) = r)) :
    Calls Try.prog 40 #[.agg #[.int .i64 h1, .string n1, .string l1, .string v1], .agg #[.int .i64 h2, .string n2, .string l2, .string v2]] w (NewRes (.bool r) w) := by
  have hq := hr.out
  by_cases hh : h1 = h2
  · have e1 : (h1 == h2) = true := by simpa using hh
    by_cases hn : n1.data.toList = n2.data.toList
    · have e2 : (n1.toList == n2.toList) = true := by rw [Lib.toList_data, Lib.toList_data, hn]; simp
      obtain rfl : true = r := by rw [← hq]; simp [hh, hn]
      clear hq hr hh hn
      go_enter Try.func40, Try.ntmps40
      go_wp2
      go_ret
      exact ⟨rfl, ((Keeps.refl _ _).alloc _).alloc _⟩
    · have e2 : (n1.toList == n2.toList) = false := by rw [Lib.toList_data, Lib.toList_data]; simpa using hn
      obtain rfl : false = r := by rw [← hq]; simp [hn]
      clear hq hr hh hn
      go_enter Try.func40, Try.ntmps40
      go_wp2
      go_ret
      exact ⟨rfl, ((Keeps.refl _ _).alloc _).alloc _⟩
  · have e1 : (h1 == h2) = false := by simpa using hh
    obtain rfl : false = r := by rw [← hq]; simp [hh]
    clear hq hr hh
    go_enter Try.func40, Try.ntmps40
    go_wp2
    go_ret
    exact ⟨rfl, ((Keeps.refl _ _).alloc _).alloc _⟩

set_option maxRecDepth 100000 in
set_option maxHeartbeats 4000000 in
/-- a leaf that is set -/
theorem value_there (v : Value) (ls : List LineD) (q : LineD) (h : Int) (N F V : ByteArray) (w : World) (hv : Hid (RowsAt 4 lineVals w v ls)) (hl : ls.length ≤ 64) (hlt : Hid (LinesLt ls 9223372036854775807)) (hr : Hid (rightC ls = true))
    (hth : Hid (thereB ⟨h, N.data.toList, F.data.toList, []⟩ ls = true)) (hq : Hid (ls[posL ⟨h, N.data.toList, F.data.toList, []⟩ ls]? = some q)) (hV : Hid (V = ⟨q.value.toArray⟩)) :
    Calls Try.prog 15 #[v, .int .i64 h, .string N, .string F] w (NewRes (.string V) w) := by
  obtain ⟨p, c, rfl⟩ := hv.out.slice
  have hLn := Lib.hid hv.out.lines
  obtain ⟨at', hat⟩ : ∃ k, posL ⟨h, N.data.toList, F.data.toList, []⟩ ls = k := ⟨_, rfl⟩
  have hat' := Lib.hid hat
  have hq2 := hq.out
  rw [hat] at hq2
  have hal : at' < ls.length := (List.getElem?_eq_some_iff.1 hq2).1
  obtain ⟨g, o, rfl, hrows⟩ := hv.out.open (by omega)
  have hcell : w.cell? ⟨g, o + at' * 4 + 3, none⟩ = some (.string V) := by
    have := hrows at' q hq2 3 (strv q.value) rfl
    rw [hV.out]; exact this
  have hcell' := Lib.hid hcell
  have m1 : (0 : Int) ≤ (at' : Int) := by omega
  have m2 : (at' : Int) < (ls.length : Int) := by omega
  clear hq2 hrows hcell hat hq hv
  go_enter Try.func15, Try.ntmps15
  go_wp2_with fail
  refine (right_c _ ls true _ hLn (by omega) hlt hr).mono ?_
  rintro e w2 ⟨rfl, k2⟩
  have k2' := Lib.hid k2; clear k2
  go_wp2_with fail
  refine (find_c _ ls h N F ⟨#[]⟩ at' true _ (Lib.hid (hLn.out.keep k2'.out (fun _ _ _ f => f))) (by omega) hat' hth).mono ?_
  rintro e w3 ⟨rfl, k3⟩
  have k3' := Lib.hid (k2'.out.trans k3)
  have hc3 : w3.cell? ⟨g, o + at' * 4 + 3, none⟩ = some (.string V) := by rw [k3'.out.cell (p := ⟨g, o + at' * 4 + 3, none⟩) (World.block_lt_of_cell? w _ hcell'.out) id]; exact hcell'.out
  clear k3 k2' hLn
  go_wp2
  go_ret
  exact ⟨rfl, k3'.out⟩
set_option maxRecDepth 100000 in
set_option maxHeartbeats 4000000 in
/-- a leaf that isn't set, and has a default -/
theorem value_default (v : Value) (ls : List LineD) (r : RowD) (h : Int) (N F V : ByteArray) (w : World) (hv : Hid (RowsAt 4 lineVals w v ls)) (hl : ls.length ≤ 64) (hlt : Hid (LinesLt ls 9223372036854775807)) (hr : Hid (rightC ls = true))
    (hth : Hid (thereB ⟨h, N.data.toList, F.data.toList, []⟩ ls = false)) (hf : Hid (findD h F.data.toList = some r)) (hV : Hid (V = ⟨r.df.toArray⟩)) :
    Calls Try.prog 15 #[v, .int .i64 h, .string N, .string F] w (NewRes (.string V) w) := by
  obtain ⟨p, c, rfl⟩ := hv.out.slice
  have hLn := Lib.hid hv.out.lines
  obtain ⟨at', hat⟩ : ∃ k, posL ⟨h, N.data.toList, F.data.toList, []⟩ ls = k := ⟨_, rfl⟩
  have hat' := Lib.hid hat
  obtain ⟨Nm, hNm⟩ : ∃ Nm : ByteArray, Nm = ⟨r.name.toArray⟩ := ⟨_, rfl⟩
  have hNm' := Lib.hid hNm
  clear hat hNm hv
  go_enter Try.func15, Try.ntmps15
  go_wp2_with fail
  refine (right_c _ ls true _ hLn (by omega) hlt hr).mono ?_
  rintro e w2 ⟨rfl, k2⟩
  have k2' := Lib.hid k2; clear k2
  go_wp2_with fail
  refine (find_c _ ls h N F ⟨#[]⟩ at' false _ (Lib.hid (hLn.out.keep k2'.out (fun _ _ _ f => f))) (by omega) hat' hth).mono ?_
  rintro e w3 ⟨rfl, k3⟩
  have k3' := Lib.hid (k2'.out.trans k3)
  clear k3 k2' hLn
  go_wp2_with fail
  refine (find_yes h F r Nm V _ hf hNm' hV).mono ?_
  rintro e w5 ⟨p5, cc, rfl, s5, k5⟩
  have k5' := Lib.hid (k3'.out.trans k5)
  clear s5 k5 k3'
  have c6 := (show (w5.alloc (.cells #[.int .i64 r.head, .string Nm, .int .i64 r.kind, .int .i64 r.lo, .int .i64 r.hi, .slice p5 r.cs.length cc, .string V, .int .i64 r.cl] 75)).cell? ⟨w5.heap.size, 6, none⟩ = some (.string V) by simp [go_sem])
  go_wp2_with ((with_reducible refine at_store 11 ?_); refine wpList_store_new rfl 75 (.tmp 11) (.tmp 35) rfl _ #[.int .i64 r.head, .string Nm, .int .i64 r.kind, .int .i64 r.lo, .int .i64 r.hi, .slice p5 r.cs.length cc, .string V, .int .i64 r.cl] rfl rfl rowInfo rfl (row_one _ _ _ _ _ _ _ _ _ _) ?_)
  go_ret
  exact ⟨rfl, k5'.out.alloc _⟩
end Go.Proofs.Ytdjmhjgfjbcdkaa
