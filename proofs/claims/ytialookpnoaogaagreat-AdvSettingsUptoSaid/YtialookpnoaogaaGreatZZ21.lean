/- Of adv: the first line of another interface. -/
import Derived.Test.YtialookpnoaogaaGreatZZ20
import Derived.Lib.SliceRun
import Derived.Test.YtialookpnoaogaaGreatZZ18
set_option linter.unusedVariables false
set_option linter.unusedSimpArgs false
set_option linter.unusedVariables false
set_option linter.unusedSimpArgs false
namespace Go.Proofs.YtialookpnoaogaaGreat
open Go.RowKit

/-- the first line of another interface, from k on -/
def idxB (n : List UInt8) (ls : List LineD) : Option Nat := ls.findIdx? (otherB n)
set_option maxRecDepth 100000 in
set_option maxHeartbeats 4000000 in
theorem idxLines_any (v : Value) (ls : List LineD) (n : List UInt8) (pn : Nat) (w : World) (hv : Hid (RowsAt 4 lineVals w v ls)) (hl : ls.length ≤ 1000000) (hc : Hid (w.cell? ⟨pn, 0, none⟩ = some (strv n))) :
    Calls Tryz.prog 90 #[v, .func (.func 52) #[] #[.pointer (some ⟨pn, 0, none⟩)]] w fun e w' => (∃ r : Int, e = .returned (.int .i64 r) ∧ ((r = -1 ∧ ∀ l ∈ ls, otherB n l = false) ∨ ∃ k : Nat, r = k ∧ k < ls.length ∧ (∀ l ∈ ls.take k, otherB n l = false) ∧ ∃ l, ls[k]? = some l ∧ otherB n l = true)) ∧ Keeps (fun _ => False) w w' := by
  obtain ⟨p, c, rfl⟩ := hv.out.slice
  go_enter Tryz.func90, Tryz.ntmps90
  go_wp2_with fail
  go_loopw [8] (fun iv wr => ∃ (k : Nat), k ≤ ls.length ∧ iv = .int .i64 k ∧ Hid (∀ l ∈ ls.take k, otherB n l = false) ∧ Hid (Keeps (fun _ => False) w wr)) (fun iv _ => ls.length - (intOf iv).toNat)
  case atStart => exact ⟨0, by omega, rfl, Lib.hid (fun l hl => by simp at hl), Lib.hid (Keeps.refl _ _)⟩
  case round =>
    obtain ⟨k, hk, rfl, hU, hK⟩ := hrel
    by_cases hlk : k < ls.length
    · obtain ⟨l, hx⟩ : ∃ x, ls[k]? = some x := ⟨_, List.getElem?_eq_getElem hlk⟩
      obtain ⟨g, o, rfl, hr⟩ := hv.out.open (by omega)
      have hr2 := Lib.hid (hK.out.rangeAt (hr k l hx) id)
      have hcn := (hK.out.cell (p := ⟨pn, 0, none⟩) (World.block_lt_of_cell? w _ hc.out) id).trans hc.out
      obtain ⟨head, name, leaf, value⟩ := l
      have hcl := Lib.hid (advSet1_any head name leaf value n pn wr hcn)
      obtain ⟨z, hz⟩ : ∃ z, otherB n ⟨head, name, leaf, value⟩ = z := ⟨_, rfl⟩
      rw [hz] at hcl
      have hz' := Lib.hid hz
      have hx' := Lib.hid hx
      have m1 : (0 : Int) ≤ (k : Int) := by omega
      have m2 : (k : Int) < (ls.length : Int) := by omega
      clear hr hcn hz hx
      go_wp2_with ((with_reducible refine at_slot 15 ?_); refine wpList_load_mid rfl 79 (.tmp 14) rfl g (o + k * 4) rfl _ _ hr2.out Tryz.underlying79 rfl (by kernel_rfl) ?_)
      refine hcl.out.mono ?_
      rintro e w2 ⟨rfl, hk2⟩
      have hK2 := Lib.hid (hK.out.trans hk2)
      clear hcl hk2 hr2 hK
      cases z with
      | true =>
        go_wp2_with fail
        go_ret
        exact ⟨⟨(k : Int), rfl, .inr ⟨k, rfl, hlk, hU.out, _, hx'.out, hz'.out⟩⟩, hK2.out⟩
      | false =>
        have hn : Hid (∀ l ∈ ls.take (k + 1), otherB n l = false) := Lib.hid (fun l hl => by
          obtain ⟨h2, e⟩ := List.getElem?_eq_some_iff.1 hx'.out
          rw [List.take_succ_eq_append_getElem h2, e] at hl
          rcases List.mem_append.1 hl with h | h
          · exact hU.out l h
          · rw [List.mem_singleton.1 h]; exact hz'.out)
        clear hU hz' hx'
        go_wp2_with fail
        exact ⟨⟨k + 1, by omega, by go_num, hn, hK2⟩, by simp [intOf]; omega⟩
    · obtain rfl : k = ls.length := by omega
      rw [List.take_length] at hU
      go_wp2_with fail
      go_ret
      exact ⟨⟨-1, rfl, .inl ⟨rfl, hU.out⟩⟩, hK.out⟩
end Go.Proofs.YtialookpnoaogaaGreat
/- Of adv: rows of lines that are set in place, cut, cleared (PLX, of lines). -/
set_option linter.unusedVariables false
set_option linter.unusedSimpArgs false
namespace Go.Proofs.YtialookpnoaogaaGreat
open Go.RowKit

theorem rowCells_setN (v : LineD) : ∀ (M : List LineD) (i : Nat), ((((rowCells lineVals M).set (i * 4) (.int .i64 v.head)).set (i * 4 + 1) (strv v.name)).set (i * 4 + 2) (strv v.leaf)).set (i * 4 + 3) (strv v.value) = rowCells lineVals (M.set i v) := by
  intro M
  induction M with
  | nil => intro i; simp [rowCells]
  | cons m M ih =>
    intro i
    have e : rowCells lineVals (m :: M) = .int .i64 m.head :: strv m.name :: strv m.leaf :: strv m.value :: rowCells lineVals M := rfl
    rw [e]
    cases i with
    | zero => rfl
    | succ i =>
      have e1 : (i + 1) * 4 = i * 4 + 1 + 1 + 1 + 1 := by omega
      have e2 : (i + 1) * 4 + 1 = i * 4 + 1 + 1 + 1 + 1 + 1 := by omega
      have e3 : (i + 1) * 4 + 2 = i * 4 + 2 + 1 + 1 + 1 + 1 := by omega
      have e4 : (i + 1) * 4 + 3 = i * 4 + 3 + 1 + 1 + 1 + 1 := by omega
      rw [e4, e3, e2, e1]
      simp only [List.set_cons_succ]
      rw [ih i]
      rfl
theorem rowCells_takeN : ∀ (M : List LineD) (k : Nat), (rowCells lineVals M).take (k * 4) = rowCells lineVals (M.take k) := by
  intro M
  induction M with
  | nil => intro k; simp [rowCells]
  | cons m M ih =>
    intro k
    cases k with
    | zero => simp [rowCells]
    | succ k =>
      have e : rowCells lineVals (m :: M) = .int .i64 m.head :: strv m.name :: strv m.leaf :: strv m.value :: rowCells lineVals M := rfl
      rw [e, show (k + 1) * 4 = k * 4 + 1 + 1 + 1 + 1 by omega, List.take_succ_cons, List.take_succ_cons, List.take_succ_cons, List.take_succ_cons, ih k]
      rfl
theorem ownN {w0 w : World} {g n c : Nat} {M : List LineD} (h : OwnR 79 4 lineVals w0 w (.slice (some ⟨g, 0, none⟩) n c) M) : ∃ cur : List Value, BlkAt w g 79 cur ∧ n = M.length ∧ M.length ≤ c ∧ c ≤ maxLen ∧ cur.length = c * 4 ∧ cur.take (M.length * 4) = rowCells lineVals M := by
  obtain ⟨⟨hlen, hv⟩, hb, hs⟩ := h
  rw [rowCells_len lineVals_len] at hlen
  rcases hv with ⟨e, -⟩ | ⟨g2, cap, cur, e, -, hg, h1, h2, h3, h4⟩
  · injection e with e1; cases e1
  · injection e with e1 e2 e3
    injection e1 with e1
    injection e1 with e4
    subst e4; subst e3; subst e2
    exact ⟨cur.toList, by unfold BlkAt; simpa using hg, rfl, h1, h2, by simpa using h3, h4⟩
theorem ownN_of {w0 w : World} {g c : Nat} {M : List LineD} {cur : List Value} (hB : BlkAt w g 79 cur) (h1 : M.length ≤ c) (h2 : c ≤ maxLen) (h3 : cur.length = c * 4) (h4 : cur.take (M.length * 4) = rowCells lineVals M) (h0 : w0.heap.size ≤ g) (hs : w0.heap.size ≤ w.heap.size) : OwnR 79 4 lineVals w0 w (.slice (some ⟨g, 0, none⟩) M.length c) M :=
  ⟨⟨by rw [rowCells_len lineVals_len], .inr ⟨g, c, cur.toArray, rfl, Nat.zero_le _, hB, h1, h2, by simpa using h3, by simpa using h4⟩⟩, fun k e => by
    have e : some g = some k := e
    rw [← Option.some.inj e]; exact h0, hs⟩
theorem setN {w0 w : World} {g c : Nat} {M : List LineD} (h : OwnR 79 4 lineVals w0 w (.slice (some ⟨g, 0, none⟩) M.length c) M) (i : Nat) (x : LineD) (hi : i < M.length) : OwnR 79 4 lineVals w0 (w.setCells g (i * 4) [.int .i64 x.head, strv x.name, strv x.leaf, strv x.value]) (.slice (some ⟨g, 0, none⟩) M.length c) (M.set i x) := by
  obtain ⟨cur, hB, -, h1, h2, h3, h4⟩ := ownN h
  have hB2 : BlkAt (w.setCells g (i * 4) [.int .i64 x.head, strv x.name, strv x.leaf, strv x.value]) g 79 ((((cur.set (i * 4) (.int .i64 x.head)).set (i * 4 + 1) (strv x.name)).set (i * 4 + 2) (strv x.leaf)).set (i * 4 + 3) (strv x.value)) := (((hB.set (i * 4) _).set (i * 4 + 1) _).set (i * 4 + 2) _).set (i * 4 + 3) _
  have := ownN_of (w0 := w0) (M := M.set i x) hB2 (by simpa using h1) h2 (by simpa using h3) (by rw [List.length_set, List.take_set, List.take_set, List.take_set, List.take_set, h4, rowCells_setN]) (h.2.1 g rfl) (Nat.le_trans h.2.2 (Keeps.setCells (F := fun j => j = g) (.inl rfl) _ _ _ (Keeps.refl _ _)).size)
  simpa using this
theorem take_set_one {M : List LineD} {k : Nat} (h : k < M.length) (y : LineD) : (M.set k y).take (k + 1) = M.take k ++ [y] := by
  rw [List.take_add_one, List.getElem?_set, if_pos rfl, if_pos h, List.take_set, List.set_eq_of_length_le (by rw [List.length_take]; omega)]; rfl
theorem blk_sets {g : Nat} {t : TypeId} : ∀ (Z : List Value) (o : Nat) (w : World) (cur : List Value), BlkAt w g t cur → ∃ cur', BlkAt (w.setCells g o Z) g t cur' ∧ cur'.length = cur.length ∧ cur'.take o = cur.take o := by
  intro Z
  induction Z with
  | nil => intro o w cur h; exact ⟨cur, h, rfl, rfl⟩
  | cons z Z ih =>
    intro o w cur h
    obtain ⟨cur', h1, h2, h3⟩ := ih (o + 1) _ _ (h.set o z)
    refine ⟨cur', h1, by simpa using h2, ?_⟩
    have h4 := congrArg (List.take o) h3
    rw [List.take_take, List.take_take, Nat.min_eq_left (by omega), List.take_set, List.set_eq_of_length_le (by rw [List.length_take]; omega)] at h4
    exact h4
theorem cutN {w0 w : World} {g c : Nat} {M : List LineD} (h : OwnR 79 4 lineVals w0 w (.slice (some ⟨g, 0, none⟩) M.length c) M) (k : Nat) (hk : k ≤ M.length) (Z : List Value) : OwnR 79 4 lineVals w0 (w.setCells g (k * 4) Z) (.slice (some ⟨g, 0, none⟩) k c) (M.take k) := by
  obtain ⟨cur, hB, -, h1, h2, h3, h4⟩ := ownN h
  obtain ⟨cur', b1, b2, b3⟩ := blk_sets Z (k * 4) w cur hB
  have hl : (M.take k).length = k := by rw [List.length_take]; omega
  have := ownN_of (w0 := w0) (M := M.take k) b1 (by omega) h2 (by omega) (by
    rw [hl, b3, ← rowCells_takeN, ← h4, List.take_take, Nat.min_eq_left (by omega)]) (h.2.1 g rfl) (Nat.le_trans h.2.2 (Keeps.setCells (F := fun j => j = g) (.inl rfl) _ _ _ (Keeps.refl _ _)).size)
  rw [hl] at this
  exact this
theorem clearN {w0 w : World} {g c n : Nat} {M : List LineD} (h : OwnR 79 4 lineVals w0 w (.slice (some ⟨g, 0, none⟩) M.length c) M) (k : Nat) (hk : k < M.length) (hn : n = M.length - k) : ∃ Z, ∀ ty c2, (Builtin.clear_ #[30] ty #[.slice (some ⟨g, k * 4, none⟩) n c2]).run Tryz.prog w = .ok (.tuple #[]) (w.setCells g (k * 4) Z) := by
  obtain ⟨cur, hB, -, h1, h2, h3, h4⟩ := ownN h
  refine ⟨(Builtin.zeroCells #[.int .i64 0, .string ⟨#[]⟩, .string ⟨#[]⟩, .string ⟨#[]⟩] n).toList, fun ty c2 => ?_⟩
  have hz : ∀ v ∈ (Builtin.zeroCells #[.int .i64 0, .string ⟨#[]⟩, .string ⟨#[]⟩, .string ⟨#[]⟩] n).toList, v.oneCell' = true := by
    intro v hv
    unfold Builtin.zeroCells at hv
    simp only [Array.toList_map, List.mem_map, Array.mem_toList_iff, Array.mem_range] at hv
    obtain ⟨i, -, rfl⟩ := hv
    have : i % 4 = 0 ∨ i % 4 = 1 ∨ i % 4 = 2 ∨ i % 4 = 3 := by omega
    rcases this with e | e | e | e <;> simp [e] <;> rfl
  have hl : (Builtin.zeroCells #[.int .i64 0, .string ⟨#[]⟩, .string ⟨#[]⟩, .string ⟨#[]⟩] n).toList.length = n * 4 := by unfold Builtin.zeroCells; simp
  have hst := run_storeCells_cells (P := Tryz.prog) g (k * 4) (Builtin.zeroCells #[.int .i64 0, .string ⟨#[]⟩, .string ⟨#[]⟩, .string ⟨#[]⟩] n).toList 0 w
    (fun j hj => by rw [Nat.add_zero, hB.cell (k * 4 + j) _ (List.getElem?_eq_getElem (by omega))]; rfl) (fun j hj => hB.frozen _) hz
  simp only [Nat.add_zero] at hst
  obtain ⟨m, rfl⟩ : ∃ m, n = m + 1 := ⟨n - 1, by omega⟩
  have hzv : ∀ w, (zeroValue 79).run Tryz.prog w = .ok (.agg #[.int .i64 0, .string ⟨#[]⟩, .string ⟨#[]⟩, .string ⟨#[]⟩]) w := fun w => Tryz.zeroValue79 w
  simp [Builtin.clear_, run_underlying Tryz.underlying30, hzv, Value.cells, hst]
end Go.Proofs.YtialookpnoaogaaGreat
/- Of adv: lines of other interfaces deleted (slices.DeleteFunc). -/
set_option linter.unusedVariables false
set_option linter.unusedSimpArgs false
namespace Go.Proofs.YtialookpnoaogaaGreat
open Go.RowKit

theorem lineInfo4 : (Tryz.prog.info? 79).map (·.size) = some 4 := by kernel_rfl
theorem store_new_line {P : Program} {ops : Array Oper} {rest : List Oper} {op : Oper} {a : Act} {w : World} {Q : Exit → Act → World → Prop} (hgd : op.guard = none) (ty : TypeId) (x y : Operand) (ho : op.op = .store ty x y)
    (c c' : Array Value) (hx : a.eval x = .pointer (some ⟨w.heap.size, 0, none⟩)) (hy : a.eval y = .agg c')
    (hi : (P.info? ty).map (·.size) = some c'.size) (hs : c.size = c'.size) (h1 : c'.all (·.oneCell') = true)
    (h : ∀ w1, Hid (w1 = w.alloc (.cells c' ty)) → wpList P ops Q rest (a.put op.dst undef) w1) : wpList P ops Q (op :: rest) a (w.alloc (.cells c ty)) :=
  wpList_store_new hgd ty x y ho c c' hx hy hi hs h1 (h _ (Lib.hid rfl))
theorem line_oneD (h : Int) (a b c : ByteArray) : (#[.int .i64 h, .string a, .string b, .string c] : Array Value).all (·.oneCell') = true := by simp; exact ⟨rfl, rfl, rfl, rfl⟩
/-- a name's own lines -/
def ownL (n : List UInt8) (ls : List LineD) : List LineD := ls.filter (fun l => !otherB n l)
theorem ownL_all {n : List UInt8} {ls : List LineD} (h : ∀ l ∈ ls, otherB n l = false) : ownL n ls = ls := List.filter_eq_self.2 (fun l hl => by rw [h l hl]; rfl)
theorem ownL_next {n : List UInt8} {ls : List LineD} {k : Nat} {l : LineD} (h : ls[k]? = some l) : ownL n (ls.take (k + 1)) = ownL n (ls.take k) ++ (if otherB n l = true then [] else [l]) := by
  obtain ⟨h2, e⟩ := List.getElem?_eq_some_iff.1 h
  rw [List.take_succ_eq_append_getElem h2, e]
  unfold ownL
  rw [List.filter_append]
  congr 1
  cases h3 : otherB n l <;> simp [h3]
set_option maxRecDepth 100000 in
set_option maxHeartbeats 8000000 in
theorem delLines_any (v : Value) (ls : List LineD) (n : List UInt8) (pn : Nat) (w0 w : World) (hO : Hid (OwnR 79 4 lineVals w0 w v ls)) (hl : ls.length ≤ 1000000) (hc : Hid (w.cell? ⟨pn, 0, none⟩ = some (strv n))) (hap : Hid (∀ k, v.ownBlock = some k → pn ≠ k)) :
    Calls Tryz.prog 50 #[v, .func (.func 52) #[] #[.pointer (some ⟨pn, 0, none⟩)]] w fun e w' => ∃ p c, e = .returned (.slice p (ownL n ls).length c) ∧ OwnR 79 4 lineVals w0 w' (.slice p (ownL n ls).length c) (ownL n ls) ∧ Keeps (fun i => v.ownBlock = some i) w w' := by
  obtain ⟨p, c, rfl⟩ := hO.out.slice
  have hix := Lib.hid (idxLines_any _ ls n pn w (Lib.hid (hO.out.at lineVals_len)) hl hc)
  go_enter Tryz.func50, Tryz.ntmps50
  go_wp2_with fail
  refine hix.out.mono ?_
  rintro e w1 ⟨⟨r, rfl, hr⟩, hk1⟩
  clear hix
  have hk1' := Lib.hid hk1
  have hO1 := Lib.hid (hO.out.keep hk1 (fun _ _ f => f))
  clear hk1
  rcases hr with ⟨rfl, hall⟩ | ⟨k, rfl, hkl, hno, l, hlk, hyes⟩
  · have e1 := ownL_all hall
    clear hall
    go_wp2_with fail
    go_ret
    exact ⟨p, c, by rw [e1]; rfl, by rw [e1]; exact hO1.out, hk1'.out.mono (fun _ f => f.elim)⟩
  · obtain ⟨g, o, rfl, -⟩ := (hO1.out.at lineVals_len).open (by omega)
    obtain rfl : o = 0 := by
      rcases hO1.out.1.2 with ⟨e, -⟩ | ⟨g2, cap, cur, e, -⟩
      · injection e with e1; cases e1
      · injection e with e1; injection e1 with e1; injection e1
    have hcap : ls.length ≤ c := by obtain ⟨cur, -, -, h1, -⟩ := ownN hO1.out; exact h1
    have hpg : Hid (pn ≠ g) := Lib.hid (hap.out g rfl)
    have hpl : Hid (pn < w.heap.size) := Lib.hid (World.block_lt_of_cell? w _ hc.out)
    have hK1 : Hid (Keeps (fun i => i = g) w w1) := Lib.hid (hk1'.out.mono (fun _ f => f.elim))
    have hs0 : Hid (ls.take k = ownL n (ls.take (k + 1))) := Lib.hid (by rw [ownL_next hlk, if_pos hyes, List.append_nil, ownL_all hno])
    have e1 : ((k : Int) == -1) = false := by rw [beq_eq_false_iff_ne]; omega
    clear hno hlk hyes hk1' hO hap
    go_wp2_with fail
    go_loopw [5, 6] (fun iv jv wr => ∃ (i j : Nat) (M : List LineD), j ≤ ls.length ∧ i < j ∧ iv = .int .i64 i ∧ jv = .int .i64 j ∧ M.length = ls.length ∧ Hid (M.take i = ownL n (ls.take j)) ∧ Hid (∀ q, j ≤ q → M[q]? = ls[q]?) ∧ Hid (OwnR 79 4 lineVals w0 wr (.slice (some ⟨g, 0, none⟩) M.length c) M) ∧ Hid (Keeps (fun i => i = g) w wr)) (fun _ jv _ => ls.length - (intOf jv).toNat)
    case atStart => exact ⟨k, k + 1, ls, by omega, by omega, rfl, by go_num, rfl, hs0, Lib.hid (fun _ _ => rfl), hO1, hK1⟩
    case round =>
      obtain ⟨i, j, M, hj, hij, rfl, rfl, hML, hMt, hMl, hOM, hKM⟩ := hrel
      clear hO1 hK1 hs0
      by_cases hjl : j < ls.length
      · obtain ⟨y, hy⟩ : ∃ x, ls[j]? = some x := ⟨_, List.getElem?_eq_getElem hjl⟩
        have hy2 : M[j]? = some y := by rw [hMl.out j (Nat.le_refl _)]; exact hy
        obtain ⟨g2, o2, e, hrows⟩ := (hOM.out.at lineVals_len).open (by omega)
        injection e with e; injection e with e1 e2
        subst e1; subst e2
        have hry0 := hrows j y hy2
        rw [Nat.zero_add] at hry0
        have hst := Lib.hid (ownL_next (n := n) hy)
        obtain ⟨head, name, leaf, value⟩ := y
        obtain ⟨z, hz⟩ : ∃ z, otherB n ⟨head, name, leaf, value⟩ = z := ⟨_, rfl⟩
        rw [hz] at hst
        have hcn := Lib.hid ((hKM.out.cell (p := ⟨pn, 0, none⟩) hpl.out hpg.out).trans hc.out)
        obtain ⟨X1, hX1⟩ : ∃ X : ByteArray, (⟨name.toArray⟩ : ByteArray) = X := ⟨_, rfl⟩
        obtain ⟨X2, hX2⟩ : ∃ X : ByteArray, (⟨leaf.toArray⟩ : ByteArray) = X := ⟨_, rfl⟩
        obtain ⟨X3, hX3⟩ : ∃ X : ByteArray, (⟨value.toArray⟩ : ByteArray) = X := ⟨_, rfl⟩
        have hvs : Hid (lineVals ⟨head, name, leaf, value⟩ = [.int .i64 head, .string X1, .string X2, .string X3]) := Lib.hid (by unfold lineVals strv; rw [hX1, hX2, hX3])
        have hry : Hid (wr.rangeAt g (j * 4) [.int .i64 head, .string X1, .string X2, .string X3]) := Lib.hid (by rw [← hvs.out]; exact hry0)
        have hcl : Hid (∀ W, Keeps (fun _ => False) wr W → Calls Tryz.prog 52 #[.agg #[.int .i64 head, .string X1, .string X2, .string X3], .pointer (some ⟨pn, 0, none⟩)] W fun e w' => e = .returned (.bool z) ∧ Keeps (fun _ => False) W w') := Lib.hid (fun W kW => by
          have h := advSet1_any head name leaf value n pn W ((kW.cell (p := ⟨pn, 0, none⟩) (World.block_lt_of_cell? wr _ hcn.out) id).trans hcn.out)
          rw [hz] at h
          unfold strv at h
          rw [hX1, hX2, hX3] at h
          exact h)
        have n1 : (0 : Int) ≤ (j : Int) := by omega
        have n2 : (j : Int) < (ls.length : Int) := by omega
        clear hy hy2 hrows hry0 hz hX1 hX2 hX3
        go_wp2_with (first | ((with_reducible refine at_slot 25 ?_); refine wpList_load_mid rfl 79 (.tmp 24) rfl g (j * 4) rfl _ _ hry.out Tryz.underlying79 rfl lineInfo4 ?_) | ((with_reducible refine at_store 7 ?_); refine store_new_line rfl 79 (.tmp 7) (.tmp 25) rfl _ #[.int .i64 head, .string X1, .string X2, .string X3] rfl rfl lineInfo4 rfl (line_oneD _ _ _ _) ?_; intro W1 hW1; have hk2 : Hid (Keeps (fun _ => False) wr W1) := Lib.hid (by rw [hW1.out]; exact (Keeps.refl _ _).alloc _); have hB1 : Hid (BlkAt W1 wr.heap.size 79 [.int .i64 head, .string X1, .string X2, .string X3]) := Lib.hid (by rw [hW1.out]; exact heap_alloc_last wr _)) | ((with_reducible refine at_slot 27 ?_); refine wpList_load_mid rfl 79 (.tmp 7) rfl wr.heap.size 0 rfl _ _ hB1.out.range Tryz.underlying79 rfl lineInfo4 ?_))
        refine (hcl.out _ hk2.out).mono ?_
        rintro e w3 ⟨rfl, hk3⟩
        have hk3' := Lib.hid (hk2.out.trans hk3)
        have hB3 := Lib.hid (hB1.out.keep hk3 id)
        have hO3 := Lib.hid (hOM.out.keep hk3'.out (fun _ _ f => f))
        have hK3 := Lib.hid (hKM.out.trans' hk3'.out (fun _ f => f.elim))
        clear hcl hk3 hk2 hB1 hry hcn hOM hKM hk3'
        cases z with
        | true =>
          have hMs : Hid (M.take i = ownL n (ls.take (j + 1))) := Lib.hid (by rw [hMt.out, hst.out, if_pos rfl, List.append_nil])
          have hMl2 : Hid (∀ q, j + 1 ≤ q → M[q]? = ls[q]?) := Lib.hid (fun q hq => hMl.out q (by omega))
          clear hst hMt hMl hvs hB3
          go_wp2_with fail
          exact ⟨⟨i, j + 1, M, by omega, by omega, rfl, by go_num, hML, hMs, hMl2, hO3, hK3⟩, by simp [intOf]; omega⟩
        | false =>
          have hiM : i < M.length := by omega
          have hMs : Hid ((M.set i ⟨head, name, leaf, value⟩).take (i + 1) = ownL n (ls.take (j + 1))) := Lib.hid (by
            rw [take_set_one hiM, hMt.out, hst.out, if_neg (by decide)])
          have hMl2 : Hid (∀ q, j + 1 ≤ q → (M.set i ⟨head, name, leaf, value⟩)[q]? = ls[q]?) := Lib.hid (fun q hq => by
            rw [List.getElem?_set, if_neg (by omega)]; exact hMl.out q (by omega))
          have hO9 : Hid (OwnR 79 4 lineVals w0 (w3.setCells g (i * 4) [.int .i64 head, .string X1, .string X2, .string X3]) (.slice (some ⟨g, 0, none⟩) (M.set i ⟨head, name, leaf, value⟩).length c) (M.set i ⟨head, name, leaf, value⟩)) := Lib.hid (by
            have h := setN hO3.out i ⟨head, name, leaf, value⟩ hiM
            have e9 : [Value.int .i64 head, strv name, strv leaf, strv value] = [.int .i64 head, .string X1, .string X2, .string X3] := hvs.out
            simp only at h
            rw [e9] at h
            rw [List.length_set]; exact h)
          have hK9 : Hid (Keeps (fun i => i = g) w (w3.setCells g (i * 4) [.int .i64 head, .string X1, .string X2, .string X3])) := Lib.hid (hK3.out.trans (Keeps.setCells (F := fun j => j = g) (.inl rfl) _ _ _ (Keeps.refl _ _)))
          obtain ⟨cur, hcB, -, hcM, -, hcl, -⟩ := ownN hO3.out
          have hth' : Hid (w3.there g (i * 4) 4) := Lib.hid (hcB.there (i * 4) 4 (by omega))
          have q1 : (0 : Int) ≤ (i : Int) := by omega
          have q2 : (i : Int) < (ls.length : Int) := by omega
          clear hst hMt hMl hcB hcM hcl hO3 hK3 hvs
          go_wp2_with (first | ((with_reducible refine at_slot 32 ?_); refine wpList_load_mid rfl 79 (.tmp 7) rfl wr.heap.size 0 rfl _ _ hB3.out.range Tryz.underlying79 rfl lineInfo4 ?_) | ((with_reducible refine at_store 33 ?_); refine wpList_store_mid rfl 79 (.tmp 33) (.tmp 32) rfl g (i * 4) #[.int .i64 head, .string X1, .string X2, .string X3] rfl rfl hth'.out lineInfo4 (by simp; exact ⟨rfl, rfl, rfl, rfl⟩) ?_))
          exact ⟨⟨i + 1, j + 1, M.set i ⟨head, name, leaf, value⟩, by omega, by omega, by go_num, by go_num, by simpa using hML, hMs, hMl2, hO9, hK9⟩, by simp [intOf]; omega⟩
      · obtain rfl : j = ls.length := by omega
        have hiM : i < M.length := by omega
        obtain ⟨Z, hZ⟩ := clearN (n := ls.length - i) hOM.out i hiM (by omega)
        have hfin : Hid (M.take i = ownL n ls) := Lib.hid (by rw [hMt.out, List.take_length])
        have hO9 := Lib.hid (cutN hOM.out i (by omega) Z)
        have hK9 : Hid (Keeps (fun i => i = g) w (wr.setCells g (i * 4) Z)) := Lib.hid (hKM.out.trans (Keeps.setCells (F := fun j => j = g) (.inl rfl) _ _ _ (Keeps.refl _ _)))
        have hlk9 : Hid ((ownL n ls).length = i) := Lib.hid (by rw [← hfin.out, List.length_take]; omega)
        have r1 : ¬ c = i := by omega
        have r2 : (i : Int) ≤ (ls.length : Int) := by omega
        have r3 : (0 : Int) ≤ (i : Int) := by omega
        have r4 : (i : Int) ≤ (c : Int) := by omega
        clear hMt hMl hOM hKM hjl hiM
        go_wp2_with fail
        go_ret
        rw [hfin.out] at hO9
        refine ⟨some ⟨g, 0, none⟩, c, ?_, by rw [hlk9.out]; exact hO9.out, hK9.out.mono (fun i e => .inl (by rw [e]; rfl))⟩
        rw [hlk9.out]; rfl
end Go.Proofs.YtialookpnoaogaaGreat
/- Of adv: a value, a number of an interface's own lines (the closures of settings). -/
set_option linter.unusedVariables false
set_option linter.unusedSimpArgs false
namespace Go.Proofs.YtialookpnoaogaaGreat
open Go.RowKit

theorem own_right {n : List UInt8} {ls : List LineD} (hr : rightC ls = true) : rightC (ownL n ls) = true :=
  right_of (fun q hq => right_line hr q ((List.mem_filter.1 hq).1)) (rises_filter _ (right_rises hr)) (Nat.le_trans (List.length_filter_le _ _) (right_len hr))
theorem own_find (n l : List UInt8) (ls : List LineD) : (ownL n ls).find? (keyB 2 n l) = ls.find? (keyB 2 n l) := by
  unfold ownL
  rw [List.find?_filter]
  congr 1
  funext q
  unfold keyB otherB
  by_cases h1 : q.head = 2
  · by_cases h2 : q.name = n
    · simp [h1, h2]
    · simp [h2]
  · simp [h1]
theorem own_value (n l : List UInt8) (ls : List LineD) : valueR (ownL n ls) 2 n l = valueR ls 2 n l := by
  unfold valueR
  rw [own_find]
/-- the value of a leaf, as settings asks for it -/
theorem advSet2_any (v : Value) (ls : List LineD) (n : List UInt8) (gO gN : Nat) (F : ByteArray) (V : ByteArray) (w : World) (hv : Hid (RowsAt 4 lineVals w v (ownL n ls))) (hr : Hid (rightC ls = true)) (hcO : Hid (w.cell? ⟨gO, 0, none⟩ = some v)) (hcN : Hid (w.cell? ⟨gN, 0, none⟩ = some (strv n)))
    (hV : Hid (V = ⟨(valueR ls 2 n F.data.toList).toArray⟩)) :
    Calls Tryz.prog 53 #[.string F, .pointer (some ⟨gO, 0, none⟩), .pointer (some ⟨gN, 0, none⟩)] w (NewRes (.string V) w) := by
  obtain ⟨p, c, rfl⟩ := hv.out.slice
  obtain ⟨N, hN⟩ : ∃ N : ByteArray, (⟨n.toArray⟩ : ByteArray) = N := ⟨_, rfl⟩
  have c1 := hcO.out
  have c2 : w.cell? ⟨gN, 0, none⟩ = some (.string N) := by rw [← hN]; exact hcN.out
  have hNl : N.data.toList = n := by rw [← hN]
  have hva := Lib.hid (value_any _ (ownL n ls) 2 N F V w hv (Lib.hid (own_right hr.out)) (Lib.hid (by rw [hNl, own_value]; exact hV.out)))
  clear hN hNl hcO hcN
  go_enter Tryz.func53, Tryz.ntmps53
  go_wp2_with fail
  refine hva.out.mono ?_
  rintro e w1 ⟨rfl, hk1⟩
  have hk1' := Lib.hid hk1
  clear hva hk1
  go_wp2_with fail
  go_ret
  exact ⟨rfl, hk1'.out⟩
/-- the number of a leaf -/
theorem advSet3_any (v : Value) (ls : List LineD) (n : List UInt8) (gO gN gF : Nat) (F : ByteArray) (m : Option Nat) (w : World) (hv : Hid (RowsAt 4 lineVals w v (ownL n ls))) (hr : Hid (rightC ls = true)) (hcO : Hid (w.cell? ⟨gO, 0, none⟩ = some v)) (hcN : Hid (w.cell? ⟨gN, 0, none⟩ = some (strv n)))
    (hcF : Hid (w.cell? ⟨gF, 0, none⟩ = some (.func (.func 53) #[] #[.pointer (some ⟨gO, 0, none⟩), .pointer (some ⟨gN, 0, none⟩)])))
    (hm : Hid (decL (valueR ls 2 n F.data.toList) = m)) :
    Calls Tryz.prog 54 #[.string F, .pointer (some ⟨gF, 0, none⟩)] w (NewRes (.int .i64 (m.getD 0 : Nat)) w) := by
  obtain ⟨V, hV⟩ : ∃ V : ByteArray, V = ⟨(valueR ls 2 n F.data.toList).toArray⟩ := ⟨_, rfl⟩
  have h2 := Lib.hid (advSet2_any v ls n gO gN F V w hv hr hcO hcN (Lib.hid hV))
  have hd : Hid (∀ W, Calls Tryz.prog 55 #[.string V] W fun e w' => e = .returned (.tuple #[.int .i64 (m.getD 0 : Nat), .bool m.isSome]) ∧ W = w') := Lib.hid (fun W => by
    have h := dec_r V m W (Lib.hid (by rw [hV]; exact hm.out))
    cases m <;> exact h)
  have c1 := hcF.out
  clear hV hcF hcO hcN hv
  go_enter Tryz.func54, Tryz.ntmps54
  go_wp2_with fail
  refine h2.out.mono ?_
  rintro e w1 ⟨rfl, hk1⟩
  have hk1' := Lib.hid hk1
  clear h2 hk1
  go_wp2_with fail
  refine (hd.out _).mono ?_
  rintro e w2 ⟨rfl, rfl⟩
  clear hd
  go_wp2_with fail
  go_ret
  exact ⟨rfl, hk1'.out⟩
end Go.Proofs.YtialookpnoaogaaGreat
/- Faults of a configuration: plain; rules.values, unset, router, tooMany, walked. -/
set_option linter.unusedVariables false
set_option linter.unusedSimpArgs false
namespace Go.Proofs.YtialookpnoaogaaGreat
open Go.RowKit

structure FaultD where
  kind : Int
  name : List UInt8
def fVals (f : FaultD) : List Value := [.int .i64 f.kind, strv f.name]
theorem fVals_len (f : FaultD) : (fVals f).length = 2 := rfl
theorem fVals_one (f : FaultD) : ∀ u ∈ fVals f, u.oneCell' = true := by
  intro u hu
  simp only [fVals, List.mem_cons, List.not_mem_nil, or_false] at hu
  rcases hu with rfl | rfl <;> rfl
theorem faultInfo : (Tryz.prog.info? 185).map (·.size) = some 2 := by kernel_rfl
theorem faultAll : ∃ i, Tryz.prog.info? 185 = some i ∧ i.zero = some (.agg #[.int .i64 0, .string ⟨#[]⟩]) ∧ i.size = 2 ∧ i.bytes = 24 := by
  have h : (Tryz.prog.info? 185).map (fun i => (i.zero, i.size, i.bytes)) = some (some (.agg #[.int .i64 0, .string ⟨#[]⟩]), 2, 24) := by kernel_rfl
  obtain ⟨i, hi, e⟩ := Option.map_eq_some_iff.1 h
  injection e with e1 e; injection e with e2 e3
  exact ⟨i, hi, e1, e2, e3⟩
/-- faults of the call's own -/
def FRes (fs : List FaultD) (w : World) (e : Ending) (w' : World) : Prop :=
  ∃ p c, e = .returned (.slice p fs.length c) ∧ OwnR 185 2 fVals w w' (.slice p fs.length c) fs ∧ Keeps (fun _ => False) w w'
/-- texts of the call's own -/
def SRes (xs : List (List UInt8)) (w : World) (e : Ending) (w' : World) : Prop :=
  ∃ p c, e = .returned (.slice p xs.length c) ∧ OwnR 9 1 nv1 w w' (.slice p xs.length c) xs ∧ Keeps (fun _ => False) w w'
def routerW : List UInt8 := [114, 111, 117, 116, 101, 114, 45, 105, 100]
def boneW : List UInt8 := [48, 46, 48, 46, 48, 46, 48]
def valuesC (ls : List LineD) (names : List (List UInt8)) (leaf : List UInt8) : List (List UInt8) := names.map (fun n => valueR ls 2 n leaf)
def unsetC (kind : Int) (names vals : List (List UInt8)) : List FaultD := (names.zip vals).flatMap (fun p => if p.2 = [] then [⟨kind, p.1⟩] else [])
def tooManyC (names : List (List UInt8)) : List FaultD := if 8 < names.length then [⟨8, []⟩] else []
def routerC (ls : List LineD) (names : List (List UInt8)) : List FaultD :=
  if 0 < names.length ∧ (valueR ls 0 [] routerW = [] ∨ valueR ls 0 [] routerW = boneW) then [⟨1, []⟩] else []
theorem strs_get {w : World} {p : Option Addr} {n c : Nat} {xs : List (List UInt8)} (h : StrsAt w (.slice p n c) xs) {k : Nat} {x : List UInt8} (hk : xs[k]? = some x) : ∃ g o, p = some ⟨g, o, none⟩ ∧ w.cell? ⟨g, o + k, none⟩ = some (.string ⟨x.toArray⟩) := by
  obtain ⟨p', c', e, hr⟩ := h
  injection e with e1 e2 e3
  subst e1
  obtain ⟨g, o, rfl, hr2⟩ := hr (by have := (List.getElem?_eq_some_iff.1 hk).1; omega)
  refine ⟨g, o, rfl, ?_⟩
  have := hr2 k (strv x) (by rw [List.getElem?_map, hk]; rfl)
  exact this
theorem strs_slice {w : World} {v : Value} {xs : List (List UInt8)} (h : StrsAt w v xs) : ∃ p c, v = .slice p xs.length c := by
  obtain ⟨p, c, e, _⟩ := h; exact ⟨p, c, e⟩

set_option maxRecDepth 100000 in
set_option maxHeartbeats 4000000 in
theorem ruValues_any (v nv : Value) (ls : List LineD) (names : List (List UInt8)) (L : ByteArray) (w : World) (hv : Hid (RowsAt 4 lineVals w v ls)) (hr : Hid (rightC ls = true)) (hn : Hid (StrsAt w nv names)) (hl : names.length ≤ 64) :
    Calls Tryz.prog 78 #[v, nv, .string L] w (SRes (valuesC ls names L.data.toList) w) := by
  obtain ⟨i0, hi0, hi1, hi2, hi3⟩ := strAll
  obtain ⟨p, c, rfl⟩ := strs_slice hn.out
  go_enter Tryz.func78, Tryz.ntmps78
  go_wp2_with fail
  go_loopw [12, 7] (fun iv ov wr => ∃ (k : Nat) (xs : List (List UInt8)) (q : Option Addr) (d : Nat), k ≤ names.length ∧ iv = .int .i64 k ∧ ov = .slice q xs.length d ∧ xs.length ≤ k ∧ Hid (xs = valuesC ls (names.take k) L.data.toList) ∧ Hid (OwnR 9 1 nv1 w wr ov xs) ∧ Hid (Keeps (fun _ => False) w wr)) (fun iv _ _ => names.length - (intOf iv).toNat)
  case atStart => exact ⟨0, [], none, 0, by omega, rfl, rfl, by simp, Lib.hid rfl, Lib.hid (OwnR.nil _ _ (Nat.le_refl _)), Lib.hid (Keeps.refl _ _)⟩
  case round =>
    obtain ⟨k, xs, q, d, hk, rfl, rfl, hxl, hxs, hO, hK⟩ := hrel
    by_cases hlk : k < names.length
    · obtain ⟨x, hx⟩ : ∃ x, names[k]? = some x := ⟨_, List.getElem?_eq_getElem hlk⟩
      obtain ⟨g, o, rfl, hc⟩ := strs_get hn.out hx
      obtain ⟨X, hX⟩ : ∃ X : ByteArray, X = ⟨x.toArray⟩ := ⟨_, rfl⟩
      have c0 : wr.cell? ⟨g, o + k, none⟩ = some (.string X) := by rw [hX]; exact (hK.out.cell (p := ⟨g, o + k, none⟩) (World.block_lt_of_cell? w _ hc) id).trans hc
      obtain ⟨V, hV⟩ : ∃ V : ByteArray, V = ⟨(valueR ls 2 X.data.toList L.data.toList).toArray⟩ := ⟨_, rfl⟩
      have hV' := Lib.hid hV
      have m1 : (k : Int) < (names.length : Int) := by omega
      have m2 : (0 : Int) ≤ (k : Int) := by omega
      have hnext : Hid (xs ++ [V.data.toList] = valuesC ls (names.take (k + 1)) L.data.toList) := Lib.hid (by
        unfold valuesC
        rw [List.take_add_one, hx, List.map_append, hxs.out, hV]
        unfold valuesC
        rw [hX]; rfl)
      have hvr := Lib.hid (hv.out.keep hK.out)
      clear hc hX hV hx
      go_wp2_with fail
      refine (value_any _ ls 2 X L V _ hvr hr hV').mono ?_
      rintro e w5 ⟨rfl, k5⟩
      have hK5 := Lib.hid (hK.out.trans k5)
      have hO5 := Lib.hid (hO.out.keep k5 (fun _ _ f => f))
      clear k5 c0 hvr hO hK
      go_wp2_with ((with_reducible refine at_slot 22 ?_); go_must (refine wpList_append_r rfl (.tmp 16) (.tmp 21) 57 9 rfl i0 _ 16 Tryz.underlying57 hi0 hi1 hi2 hi3 rfl (by decide) (by decide) (fun _ => rfl) w _ xs.length xs rfl rfl (hO5.out.keep ((Keeps.refl (fun _ => False) _).alloc _) (fun _ _ f => f)) _ rfl V.data.toList (cells_new rfl [.string V] _) (fun u hu => (by simp [nv1] at hu; subst hu; rfl)) (by omega) ?_); intro q8 d8 w8 hO8 hg8)
      have hk8 := Lib.hid ((hO5.out.keep ((Keeps.refl (fun _ => False) w5).alloc (.cells #[.string V] 9)) (fun _ _ f => f)).keeps (hK5.out.alloc _) hg8.out)
      exact ⟨⟨k + 1, xs ++ [V.data.toList], q8, d8, by omega, by go_num, by simp, by simp; omega, hnext, by simpa using hO8, hk8⟩, by simp [intOf]; omega⟩
    · obtain rfl : k = names.length := by omega
      have hx2 := Lib.hid (hxs.out.trans (by rw [List.take_length]))
      clear hxs
      go_wp2_with fail
      go_ret
      refine ⟨q, d, ?_, ?_, hK.out⟩
      · rw [← hx2.out]; rfl
      · rw [← hx2.out]; exact hO.out
end Go.Proofs.YtialookpnoaogaaGreat
