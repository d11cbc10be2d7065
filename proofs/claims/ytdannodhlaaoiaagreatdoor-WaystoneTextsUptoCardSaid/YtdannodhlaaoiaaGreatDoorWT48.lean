/- verbWord, headWord, words, walked. -/
import Derived.Test.YtdannodhlaaoiaaGreatDoorWT28
import Derived.Test.YtdannodhlaaoiaaGreatDoorWT47
set_option linter.unusedVariables false
set_option linter.unusedSimpArgs false
namespace Go.Proofs.YtdannodhlaaoiaaGreatDoor
open Go.RowKit

theorem Below.keeps {w w' : World} (h : Below w.heap.size w w') : Keeps (fun _ => False) w w' := ⟨h.os, h.tape, h.output, h.size, fun k hk _ => h.block k hk⟩
set_option maxRecDepth 100000 in
theorem verbWord_any (a : Int) (X : ByteArray) (w : World) (ht : Hid (VerbsOk w)) (hX : Hid (X = ⟨(verbW a).toArray⟩)) :
    Calls Tryz.prog 88 #[.int .i64 a] w fun e w' => e = .returned (.string X) ∧ w = w' := by
  by_cases h0 : a < 0
  · have hx : X = ⟨#[]⟩ := by rw [hX.out]; unfold verbW; rw [if_neg (by omega)]
    subst hx
    clear hX
    go_enter Tryz.func88, Tryz.ntmps88
    go_wp2
    go_ret
    exact ⟨rfl, rfl⟩
  · by_cases h1 : 10 ≤ a
    · have hx : X = ⟨#[]⟩ := by rw [hX.out]; unfold verbW; rw [if_neg (by omega)]
      subst hx
      have e0 : decide (a < 0) = false := by simpa using h0
      clear hX
      go_enter Tryz.func88, Tryz.ntmps88
      go_wp2
      go_ret
      exact ⟨rfl, rfl⟩
    · obtain ⟨k, rfl⟩ : ∃ k : Nat, a = k := ⟨a.toNat, by omega⟩
      have hk : k < 10 := by omega
      have c0 : w.cell? ⟨0, k, none⟩ = some (.string X) := by
        have h2 : verbVals[k]? = some (.string X) := by
          rw [hX.out]
          unfold verbW verbVals
          rw [if_pos (by omega), List.getElem?_map, Int.toNat_natCast, List.getD_eq_getElem?_getD, List.getElem?_eq_getElem (show k < verbsL.length from hk)]
          rfl
        have := ht.out k _ h2
        rwa [Nat.zero_add] at this
      have e0 : decide ((k : Int) < 0) = false := by simp
      have e1 : decide ((10 : Int) ≤ (k : Int)) = false := by simpa using h1
      clear h0 h1 hX ht
      go_enter Tryz.func88, Tryz.ntmps88
      go_wp2
      go_ret
      exact ⟨rfl, rfl⟩
set_option maxRecDepth 100000 in
theorem pHeadWord_any (h : Int) (X : ByteArray) (w : World) (hX : Hid (X = ⟨(headW h).toArray⟩)) :
    Calls Tryz.prog 89 #[.int .i64 h] w fun e w' => e = .returned (.string X) ∧ w = w' := by
  by_cases h1 : h = 1
  · subst h1
    have hx : X = ⟨#[97, 114, 101, 97]⟩ := by rw [hX.out]; rfl
    subst hx
    clear hX
    go_enter Tryz.func89, Tryz.ntmps89
    go_wp2
    go_ret
    exact ⟨rfl, rfl⟩
  · have e1 : (h == 1) = false := by simpa using h1
    by_cases h2 : h = 2
    · subst h2
      have hx : X = ⟨#[105, 110, 116, 101, 114, 102, 97, 99, 101]⟩ := by rw [hX.out]; rfl
      subst hx
      clear hX h1 e1
      go_enter Tryz.func89, Tryz.ntmps89
      go_wp2
      go_ret
      exact ⟨rfl, rfl⟩
    · have e2 : (h == 2) = false := by simpa using h2
      have hx : X = ⟨#[]⟩ := by rw [hX.out]; unfold headW; rw [if_neg h1, if_neg h2]
      subst hx
      clear hX h1 h2
      go_enter Tryz.func89, Tryz.ntmps89
      go_wp2
      go_ret
      exact ⟨rfl, rfl⟩
/-- what an append of some texts leaves -/
theorem OwnStrs.pushes {w0 wr wb w1 : World} {v : Value} {xs : List (List UInt8)} (h : OwnStrs w0 wr v xs) (ys : List (List UInt8)) {p : Option Addr} {c : Nat} (hk : Keeps (fun _ => False) w0 wb)
    (ho : wb.grownBy w1 v.ownBlock) (h2 : w1.ownsRow 0 9 1 (.slice p (xs.length + ys.length) c) (xs.length + ys.length) (xs.map strv ++ ys.map strv))
    (hs : ∀ k, (Value.slice p (xs.length + ys.length) c).ownBlock = some k → v.ownBlock = some k ∨ wb.heap.size ≤ k) :
    OwnStrs w0 w1 (.slice p (xs.length + ys.length) c) (xs ++ ys) ∧ Keeps (fun _ => False) w0 w1 := by
  refine ⟨⟨by simpa using h2, fun k e => ?_⟩, hk.grown ho (fun k e => .inr (h.2 k e))⟩
  rcases hs k e with e | e
  · exact h.2 k e
  · have := hk.size; omega
theorem OwnStrs.toC {w0 w : World} {v : Value} {xs : List (List UInt8)} (h : OwnStrs w0 w v xs) : StrsC w v xs := by
  obtain ⟨p, c, e, hr⟩ := h.at
  refine ⟨p, c, e, ?_, hr⟩
  rcases h.1.2 with ⟨h1, h2⟩ | ⟨g, cap, cur, he, _, _, hle, _⟩
  · rw [h2]; exact Nat.zero_le _
  · rw [e] at he; injection he with e1 e2 e3; omega
def WordsOut (xs : List (List UInt8)) (w : World) (e : Ending) (w' : World) : Prop := ∃ p c, e = .returned (.slice p xs.length c) ∧ StrsC w' (.slice p xs.length c) xs ∧ Keeps (fun _ => False) w w'
theorem own_keep {w0 w w' : World} {v : Value} {xs : List (List UInt8)} (h : OwnStrs w0 w v xs) (k : Keeps (fun _ => False) w w') : OwnStrs w0 w' v xs := ⟨k.ownsRow h.1 (fun _ _ f => f), h.2⟩

theorem wp_append_sep {P : Program} {w : World} {o : Oper} {a : Act} {K : Act → World → Prop} {Q : Exit → Act → World → Prop} (s x : Operand) (t : TypeId)
    (ho : o.op = .call { callee := .builtin .append, args := #[s, x], argTypes := #[t, t] })
    (e : TypeId) (i : TypeInfo) (z : Value) (size bytes : Nat) (ht : P.underlying t = some (.slice e)) (hi : P.info? e = some i) (hz : i.zero = some z)
    (hsize : i.size = size) (hby : i.bytes = bytes) (hzs : z.cells.size = size) (hsz : 0 < size)
    (v : Value) (n : Nat) (xs : List Value) (hs : a.eval s = v) (hown : w.ownsRow 0 e size v n xs)
    (ad : Addr) (m c : Nat) (news : List Value) (hx : a.eval x = .slice (some ad) m c) (hl : news.length = m * size) (hnews : ∀ j u, news[j]? = some u → w.cell? (ad.add j) = some u) (h1 : ∀ u ∈ news, u.oneCell' = true)
    (h63 : n + m ≤ maxLen) (hbytes : (n + m) * bytes ≤ 140737488355328)
    (h : ∀ p c w', w'.ownsRow 0 e size (.slice p (n + m) c) (n + m) (xs ++ news) → w.grownBy w' v.ownBlock → Hid (∀ k, (Value.slice p (n + m) c).ownBlock = some k → v.ownBlock = some k ∨ w.heap.size ≤ k) → K (a.put o.dst (.slice p (n + m) c)) w') : o.wp P a w K Q := by
  obtain ⟨v', w', hr, h2, h3, h4⟩ := run_append_sep (P := P) w t o.type e i z size bytes ht hi hz hsize hby hzs hsz v n xs hown ad m c news hl hnews h1 h63 hbytes
  unfold Oper.wp execOp
  simp only [ho, resolve, invoke, builtin, Sem.run_bind, Sem.run_pure, Result.andThen_ok, List.map_toArray, List.map_cons, List.map_nil, hs, hx, hr]
  obtain ⟨p, c, rfl⟩ := ownsRow_slice h2
  exact h p c w' h2 h3 h4
theorem load_intp (w : World) (b o : Nat) (n : Int) (h : w.cell? ⟨b, o, none⟩ = some (.int .i64 n)) : (loadVar 3 ⟨b, o, none⟩).run Tryz.prog w = .ok (.int .i64 n) w := by simp [go_sem, h]

/-- the table that strconv reads stands as it should -/
def TabOk (w : World) : Prop := Lib.TabIs Tryz.prog w "internal/strconv.uint64pow10" .u64 Lib.pow10Tab
theorem TabOk.keep {w w' : World} (h : TabOk w) (k : Keeps (fun _ => False) w w') : TabOk w' := by
  unfold TabOk Lib.TabIs World.var? at *
  cases hg : Tryz.prog.globalNamed "internal/strconv.uint64pow10" with
  | none => rw [hg] at h; cases h
  | some g =>
    rw [hg] at h
    simp only [Option.bind_some] at h ⊢
    cases hb : w.heap[g]? with
    | none => rw [hb] at h; cases h
    | some o => rw [k.block g (lt_of_block hb) id]; exact h
theorem Keeps.grow {w0 w : World} (h : Keeps (fun _ => False) w0 w) (os : Array Obj) : Keeps (fun _ => False) w0 (Sort.grow w os) :=
  ⟨h.os, h.tape, h.output, by unfold Sort.grow; simp; have := h.size; omega, fun k hk hn => by
    rw [← h.block k hk hn]
    unfold Sort.grow
    exact Array.getElem?_append_left (by have := h.size; omega)⟩
theorem itoa_X (n : Int) (X : ByteArray) (w : World) (h0 : -9223372036854775808 ≤ n) (h1 : n ≤ 9223372036854775807) (ht : Hid (TabOk w)) (hX : Hid (X = ⟨(itoaL n).toArray⟩)) :
    Calls Tryz.prog 90 #[.int .i64 n] w fun e w' => e = .returned (.string X) ∧ Keeps (fun _ => False) w w' :=
  (Tryz.strconv_Itoa n h0 h1 w ht.out).mono fun e w' ⟨he, k, os, hw⟩ => by
    subst he; subst hw
    exact ⟨by rw [hX.out]; rfl, ((Keeps.refl _ _).drewN k).grow os⟩

set_option maxRecDepth 100000 in
set_option maxHeartbeats 4000000 in
theorem words_1te (n : Int) (nm lf vl : List UInt8) (N L V : ByteArray) (w : World) (ht : Hid (VerbsOk w)) (hN : Hid (N = ⟨nm.toArray⟩)) (hL : Hid (L = ⟨lf.toArray⟩)) (hV : Hid (V = ⟨vl.toArray⟩)) (hlf : lf = []) :
    Calls Tryz.prog 55 #[.agg #[.int .i64 1, .int .i64 0, .string N, .string L, .string V, .int .i64 n]] w (WordsOut [verbW 1, vl] w) := by
  obtain ⟨i0, hi, hz0, hz1, hz2⟩ := info_parts strInfoAll
  obtain ⟨X0, hX0⟩ : ∃ X : ByteArray, X = ⟨(verbW 1).toArray⟩ := ⟨_, rfl⟩
  obtain ⟨W1, hW1⟩ : ∃ W1, W1 = w.alloc (.cells #[.int .i64 1, .int .i64 0, .string N, .string L, .string V, .int .i64 n] 56) := ⟨_, rfl⟩
  obtain ⟨W2, hW2⟩ : ∃ W2, W2 = W1.alloc (.cells #[.string X0] 9) := ⟨_, rfl⟩
  have hB1 : Hid (BlkAt W1 w.heap.size 56 [.int .i64 1, .int .i64 0, .string N, .string L, .string V, .int .i64 n]) := Lib.hid (by rw [hW1]; exact BlkAt.new w 56 [.int .i64 1, .int .i64 0, .string N, .string L, .string V, .int .i64 n])
  have hs1 : W1.heap.size = w.heap.size + 1 := by rw [hW1]; simp
  have hO : Hid (OwnStrs W1 W2 (.slice (some ⟨w.heap.size + 1, 0, none⟩) 1 1) [verbW 1]) := Lib.hid (by rw [hW2, ← hs1, hX0]; exact OwnStrs.one W1 (verbW 1))
  have hK : Hid (Keeps (fun _ => False) W1 W2) := Lib.hid (by rw [hW2]; exact (Keeps.refl _ _).alloc _)
  have hw1 : Hid (Keeps (fun _ => False) w W1) := Lib.hid (by rw [hW1]; exact (Keeps.refl _ _).alloc _)
  have c0 := (BlkAt.new w 56 [.int .i64 1, .int .i64 0, .string N, .string L, .string V, .int .i64 n]).cell 0 _ rfl
  have ht1 := Lib.hid (ht.out.keep ((Keeps.refl (fun _ => False) w).alloc (.cells #[.int .i64 1, .int .i64 0, .string N, .string L, .string V, .int .i64 n] 56)))
  have hX0' := Lib.hid hX0; have hs1' := Lib.hid hs1
  rw [hW1] at hW2
  have hW2' := Lib.hid hW2
  clear hX0 hs1 hW1 hW2 ht
  go_enter Tryz.func55, Tryz.ntmps55
  go_wp2_with fail
  refine (verbWord_any 1 X0 _ ht1 hX0').mono ?_
  rintro e w2 ⟨rfl, rfl⟩
  go_upto_region 2 with fail
  rw [← hW2'.out]
  clear hW2' c0 ht1
  have hBl := hB1.out.keep hK.out id
  have c0 := hBl.cell 0 _ rfl
  have c1 := hBl.cell 1 _ rfl
  have c2 := hBl.cell 2 _ rfl
  have c3 := hBl.cell 3 _ rfl
  have c4 := hBl.cell 4 _ rfl
  have c5 := hBl.cell 5 _ rfl
  clear hBl
  have fh : True := trivial
  obtain rfl : L = ⟨#[]⟩ := by rw [hL.out, hlf]
  clear hlf
  go_upto_region 14 with ((with_reducible refine at_slot 45 ?_); refine wpList_append_sep rfl (.tmp 40) (.tmp 44) 65 rfl 9 i0 (.string ⟨#[]⟩) 1 16 Tryz.underlying65 hi hz0 hz1 hz2 rfl (by decide) _ 1 ([verbW 1].map strv) rfl (hO.out.1.alloc _) ⟨W2.heap.size, 0, none⟩ 1 1 [.string V] rfl rfl (cells_new (by simp) _ _) (by simp [Value.oneCell']) (by unfold maxLen; omega) (by omega) ?_; intro p9 d9 w9 ho1 hg1 hs1; have ho9 := Lib.hid ho1; have hg9 := Lib.hid hg1; have hs9 := Lib.hid hs1; clear ho1 hg1 hs1)
  clear c0 c1 c2 c3 c4 c5
  have hR := OwnStrs.pushes hO.out [vl] (hK.out.alloc _) hg9.out (by have h9 := ho9.out; rw [hV.out] at h9; exact h9) hs9.out
  have hO := Lib.hid hR.1; have hK := Lib.hid hR.2
  simp only [List.cons_append, List.nil_append, List.length_cons, List.length_nil, Nat.zero_add, Nat.reduceAdd] at hO
  clear hR ho9 hg9 hs9
  go_wp2_with fail
  go_ret
  exact ⟨_, _, rfl, hO.out.toC, hw1.out.trans hK.out⟩
set_option maxRecDepth 100000 in
set_option maxHeartbeats 4000000 in
theorem words_1tl (n : Int) (nm lf vl : List UInt8) (N L V : ByteArray) (w : World) (ht : Hid (VerbsOk w)) (hN : Hid (N = ⟨nm.toArray⟩)) (hL : Hid (L = ⟨lf.toArray⟩)) (hV : Hid (V = ⟨vl.toArray⟩)) (hlf : lf ≠ []) :
    Calls Tryz.prog 55 #[.agg #[.int .i64 1, .int .i64 0, .string N, .string L, .string V, .int .i64 n]] w (WordsOut [verbW 1, lf, vl] w) := by
  obtain ⟨i0, hi, hz0, hz1, hz2⟩ := info_parts strInfoAll
  obtain ⟨X0, hX0⟩ : ∃ X : ByteArray, X = ⟨(verbW 1).toArray⟩ := ⟨_, rfl⟩
  obtain ⟨W1, hW1⟩ : ∃ W1, W1 = w.alloc (.cells #[.int .i64 1, .int .i64 0, .string N, .string L, .string V, .int .i64 n] 56) := ⟨_, rfl⟩
  obtain ⟨W2, hW2⟩ : ∃ W2, W2 = W1.alloc (.cells #[.string X0] 9) := ⟨_, rfl⟩
  have hB1 : Hid (BlkAt W1 w.heap.size 56 [.int .i64 1, .int .i64 0, .string N, .string L, .string V, .int .i64 n]) := Lib.hid (by rw [hW1]; exact BlkAt.new w 56 [.int .i64 1, .int .i64 0, .string N, .string L, .string V, .int .i64 n])
  have hs1 : W1.heap.size = w.heap.size + 1 := by rw [hW1]; simp
  have hO : Hid (OwnStrs W1 W2 (.slice (some ⟨w.heap.size + 1, 0, none⟩) 1 1) [verbW 1]) := Lib.hid (by rw [hW2, ← hs1, hX0]; exact OwnStrs.one W1 (verbW 1))
  have hK : Hid (Keeps (fun _ => False) W1 W2) := Lib.hid (by rw [hW2]; exact (Keeps.refl _ _).alloc _)
  have hw1 : Hid (Keeps (fun _ => False) w W1) := Lib.hid (by rw [hW1]; exact (Keeps.refl _ _).alloc _)
  have c0 := (BlkAt.new w 56 [.int .i64 1, .int .i64 0, .string N, .string L, .string V, .int .i64 n]).cell 0 _ rfl
  have ht1 := Lib.hid (ht.out.keep ((Keeps.refl (fun _ => False) w).alloc (.cells #[.int .i64 1, .int .i64 0, .string N, .string L, .string V, .int .i64 n] 56)))
  have hX0' := Lib.hid hX0; have hs1' := Lib.hid hs1
  rw [hW1] at hW2
  have hW2' := Lib.hid hW2
  clear hX0 hs1 hW1 hW2 ht
  go_enter Tryz.func55, Tryz.ntmps55
  go_wp2_with fail
  refine (verbWord_any 1 X0 _ ht1 hX0').mono ?_
  rintro e w2 ⟨rfl, rfl⟩
  go_upto_region 2 with fail
  rw [← hW2'.out]
  clear hW2' c0 ht1
  have hBl := hB1.out.keep hK.out id
  have c0 := hBl.cell 0 _ rfl
  have c1 := hBl.cell 1 _ rfl
  have c2 := hBl.cell 2 _ rfl
  have c3 := hBl.cell 3 _ rfl
  have c4 := hBl.cell 4 _ rfl
  have c5 := hBl.cell 5 _ rfl
  clear hBl
  have fh : True := trivial
  have g1 : L.toList.isEmpty = false := by rw [Lib.toList_data, hL.out]; cases lf with | nil => exact absurd rfl hlf | cons x y => rfl
  have g2 : (L.toList != []) = true := by rw [bne_iff_ne]; intro e; rw [e] at g1; cases g1
  have g3 : (L.toList == []) = false := by rw [beq_eq_false_iff_ne]; intro e; rw [e] at g1; cases g1
  clear hlf
  go_upto_region 9 with ((with_reducible refine at_slot 36 ?_); refine wpList_append_sep rfl (.tmp 31) (.tmp 35) 65 rfl 9 i0 (.string ⟨#[]⟩) 1 16 Tryz.underlying65 hi hz0 hz1 hz2 rfl (by decide) _ 1 ([verbW 1].map strv) rfl (hO.out.1.alloc _) ⟨W2.heap.size, 0, none⟩ 1 1 [.string L] rfl rfl (cells_new (by simp) _ _) (by simp [Value.oneCell']) (by unfold maxLen; omega) (by omega) ?_; intro p9 d9 w9 ho1 hg1 hs1; have ho9 := Lib.hid ho1; have hg9 := Lib.hid hg1; have hs9 := Lib.hid hs1; clear ho1 hg1 hs1)
  clear c0 c1 c2 c3 c4 c5
  have hR := OwnStrs.pushes hO.out [lf] (hK.out.alloc _) hg9.out (by have h9 := ho9.out; rw [hL.out] at h9; exact h9) hs9.out
  have hO := Lib.hid hR.1; have hK := Lib.hid hR.2
  simp only [List.cons_append, List.nil_append, List.length_cons, List.length_nil, Nat.zero_add, Nat.reduceAdd] at hO
  clear hR ho9 hg9 hs9
  have hBl := hB1.out.keep hK.out id
  have c0 := hBl.cell 0 _ rfl
  have c1 := hBl.cell 1 _ rfl
  have c2 := hBl.cell 2 _ rfl
  have c3 := hBl.cell 3 _ rfl
  have c4 := hBl.cell 4 _ rfl
  have c5 := hBl.cell 5 _ rfl
  clear hBl
  go_upto_region 14 with ((with_reducible refine at_slot 45 ?_); refine wpList_append_sep rfl (.tmp 40) (.tmp 44) 65 rfl 9 i0 (.string ⟨#[]⟩) 1 16 Tryz.underlying65 hi hz0 hz1 hz2 rfl (by decide) _ 2 ([verbW 1, lf].map strv) rfl (hO.out.1.alloc _) ⟨w9.heap.size, 0, none⟩ 1 1 [.string V] rfl rfl (cells_new (by simp) _ _) (by simp [Value.oneCell']) (by unfold maxLen; omega) (by omega) ?_; intro p9 d9 w9 ho1 hg1 hs1; have ho9 := Lib.hid ho1; have hg9 := Lib.hid hg1; have hs9 := Lib.hid hs1; clear ho1 hg1 hs1)
  clear c0 c1 c2 c3 c4 c5
  have hR := OwnStrs.pushes hO.out [vl] (hK.out.alloc _) hg9.out (by have h9 := ho9.out; rw [hV.out] at h9; exact h9) hs9.out
  have hO := Lib.hid hR.1; have hK := Lib.hid hR.2
  simp only [List.cons_append, List.nil_append, List.length_cons, List.length_nil, Nat.zero_add, Nat.reduceAdd] at hO
  clear hR ho9 hg9 hs9
  go_wp2_with fail
  go_ret
  exact ⟨_, _, rfl, hO.out.toC, hw1.out.trans hK.out⟩
set_option maxRecDepth 100000 in
set_option maxHeartbeats 4000000 in
theorem words_1he (h n : Int) (nm lf vl : List UInt8) (N L V : ByteArray) (w : World) (ht : Hid (VerbsOk w)) (hN : Hid (N = ⟨nm.toArray⟩)) (hL : Hid (L = ⟨lf.toArray⟩)) (hV : Hid (V = ⟨vl.toArray⟩)) (hh0 : h ≠ 0) (hlf : lf = []) :
    Calls Tryz.prog 55 #[.agg #[.int .i64 1, .int .i64 h, .string N, .string L, .string V, .int .i64 n]] w (WordsOut [verbW 1, headW h, nm, vl] w) := by
  obtain ⟨i0, hi, hz0, hz1, hz2⟩ := info_parts strInfoAll
  obtain ⟨X0, hX0⟩ : ∃ X : ByteArray, X = ⟨(verbW 1).toArray⟩ := ⟨_, rfl⟩
  obtain ⟨W1, hW1⟩ : ∃ W1, W1 = w.alloc (.cells #[.int .i64 1, .int .i64 h, .string N, .string L, .string V, .int .i64 n] 56) := ⟨_, rfl⟩
  obtain ⟨W2, hW2⟩ : ∃ W2, W2 = W1.alloc (.cells #[.string X0] 9) := ⟨_, rfl⟩
  have hB1 : Hid (BlkAt W1 w.heap.size 56 [.int .i64 1, .int .i64 h, .string N, .string L, .string V, .int .i64 n]) := Lib.hid (by rw [hW1]; exact BlkAt.new w 56 [.int .i64 1, .int .i64 h, .string N, .string L, .string V, .int .i64 n])
  have hs1 : W1.heap.size = w.heap.size + 1 := by rw [hW1]; simp
  have hO : Hid (OwnStrs W1 W2 (.slice (some ⟨w.heap.size + 1, 0, none⟩) 1 1) [verbW 1]) := Lib.hid (by rw [hW2, ← hs1, hX0]; exact OwnStrs.one W1 (verbW 1))
  have hK : Hid (Keeps (fun _ => False) W1 W2) := Lib.hid (by rw [hW2]; exact (Keeps.refl _ _).alloc _)
  have hw1 : Hid (Keeps (fun _ => False) w W1) := Lib.hid (by rw [hW1]; exact (Keeps.refl _ _).alloc _)
  have c0 := (BlkAt.new w 56 [.int .i64 1, .int .i64 h, .string N, .string L, .string V, .int .i64 n]).cell 0 _ rfl
  have ht1 := Lib.hid (ht.out.keep ((Keeps.refl (fun _ => False) w).alloc (.cells #[.int .i64 1, .int .i64 h, .string N, .string L, .string V, .int .i64 n] 56)))
  have hX0' := Lib.hid hX0; have hs1' := Lib.hid hs1
  rw [hW1] at hW2
  have hW2' := Lib.hid hW2
  clear hX0 hs1 hW1 hW2 ht
  go_enter Tryz.func55, Tryz.ntmps55
  go_wp2_with fail
  refine (verbWord_any 1 X0 _ ht1 hX0').mono ?_
  rintro e w2 ⟨rfl, rfl⟩
  go_upto_region 2 with fail
  rw [← hW2'.out]
  clear hW2' c0 ht1
  have hBl := hB1.out.keep hK.out id
  have c0 := hBl.cell 0 _ rfl
  have c1 := hBl.cell 1 _ rfl
  have c2 := hBl.cell 2 _ rfl
  have c3 := hBl.cell 3 _ rfl
  have c4 := hBl.cell 4 _ rfl
  have c5 := hBl.cell 5 _ rfl
  clear hBl
  have fh : (h != 0) = true := by rw [bne_iff_ne]; exact hh0
  go_upto_region 6 with fail
  clear c0 c1 c2 c3 c4 c5
  obtain ⟨X1, hX1⟩ : ∃ X : ByteArray, X = ⟨(headW h).toArray⟩ := ⟨_, rfl⟩
  have hX1' := Lib.hid hX1; clear hX1
  refine wp_region_noPanic ?_
  refine wp_region_held_drew (S := (fun W => Keeps (fun _ => False) W1 W)) (by kernel_rfl) ((hK.out.drew)) (fun hHeld => ?_)
  refine tk 0 rfl ?_
  refine tk 1 rfl ?_
  refine tk 2 rfl ?_
  refine tkL 3 rfl (yieldsIf_load_cell (by rfl) 3 (.tmp 19) rfl w.heap.size 1 rfl _ (fun _ s => (hB1.out.keep s id).cell 1 _ rfl) (fun w s => load_intp w _ _ _ s)) ?_
  refine tk 5 rfl ?_
  refine tk 6 rfl ?_
  refine tkL 7 rfl (yieldsIf_load_cell (by rfl) 9 (.tmp 23) rfl w.heap.size 2 rfl _ (fun _ s => (hB1.out.keep s id).cell 2 _ rfl) (fun w s => load_strp w _ _ _ s)) ?_
  refine stepL 4 rfl (by kernel_rfl) (fun K hK => ?_)
  go_simp
  (refine (pHeadWord_any h X1 _ hX1').mono ?_; rintro e w3 ⟨rfl, rfl⟩)
  go_wp2_with fail
  refine hK.out _ _ (hHeld) (fun hHeld => ?_)
  clear hK K
  try simp only [Act.put, sA, sZ, sS]
  refine stepL 8 rfl (by kernel_rfl) (fun K hK => ?_)
  go_simp
  refine hK.out _ _ ((hHeld.alloc _)) (fun hHeld => ?_)
  clear hK K
  try simp only [Act.put, sA, sZ, sS]
  refine stepL 9 rfl (by kernel_rfl) (fun K hK => ?_)
  rw [if_pos (by rfl)]
  (refine wp_append_sep (.tmp 17) (.tmp 25) 65 rfl 9 i0 (.string ⟨#[]⟩) 1 16 Tryz.underlying65 hi hz0 hz1 hz2 rfl (by decide) _ 1 ([verbW 1].map strv) rfl (World.ownsRow.alloc (own_keep hO.out ((Keeps.refl (fun _ => False) W2).drew)).1 _) ⟨W2.heap.size, 0, none⟩ 2 2 [.string X1, .string N] rfl rfl (cells_new rfl _ _) (by simp [Value.oneCell']) (by unfold maxLen; omega) (by omega) ?_; intro p9 d9 w9 ho1 hg1 hs1; have ho9 := Lib.hid ho1; have hg9 := Lib.hid hg1; have hs9 := Lib.hid hs1; clear ho1 hs1)
  refine hK.out _ _ ((hHeld.grown hg1 (fun k e => .inr (hO.out.2 k e)))) (fun hHeld => ?_)
  clear hK K
  try simp only [Act.put, sA, sZ, sS]
  refine tk 10 rfl ?_
  refine wpAnyH_done (by kernel_rfl) (NoPanic.normal ?_) _
  clear hHeld
  have hR := OwnStrs.pushes hO.out [headW h, nm] (((Keeps.refl (fun _ => False) W2).drew).alloc (.cells #[.string X1, .string N] 9) |> (hK.out.trans ·)) hg9.out (by have h9 := ho9.out; rw [hX1'.out, hN.out] at h9; exact h9) hs9.out
  have hO := Lib.hid hR.1; have hK := Lib.hid hR.2
  simp only [List.cons_append, List.nil_append, List.length_cons, List.length_nil, Nat.zero_add, Nat.reduceAdd] at hO
  clear hR ho9 hg9 hs9
  have hBl := hB1.out.keep hK.out id
  have c0 := hBl.cell 0 _ rfl
  have c1 := hBl.cell 1 _ rfl
  have c2 := hBl.cell 2 _ rfl
  have c3 := hBl.cell 3 _ rfl
  have c4 := hBl.cell 4 _ rfl
  have c5 := hBl.cell 5 _ rfl
  clear hBl
  obtain rfl : L = ⟨#[]⟩ := by rw [hL.out, hlf]
  clear hlf
  go_upto_region 14 with ((with_reducible refine at_slot 45 ?_); refine wpList_append_sep rfl (.tmp 40) (.tmp 44) 65 rfl 9 i0 (.string ⟨#[]⟩) 1 16 Tryz.underlying65 hi hz0 hz1 hz2 rfl (by decide) _ 3 ([verbW 1, headW h, nm].map strv) rfl (hO.out.1.alloc _) ⟨w9.heap.size, 0, none⟩ 1 1 [.string V] rfl rfl (cells_new (by simp) _ _) (by simp [Value.oneCell']) (by unfold maxLen; omega) (by omega) ?_; intro p9 d9 w9 ho1 hg1 hs1; have ho9 := Lib.hid ho1; have hg9 := Lib.hid hg1; have hs9 := Lib.hid hs1; clear ho1 hg1 hs1)
  clear c0 c1 c2 c3 c4 c5
  have hR := OwnStrs.pushes hO.out [vl] (hK.out.alloc _) hg9.out (by have h9 := ho9.out; rw [hV.out] at h9; exact h9) hs9.out
  have hO := Lib.hid hR.1; have hK := Lib.hid hR.2
  simp only [List.cons_append, List.nil_append, List.length_cons, List.length_nil, Nat.zero_add, Nat.reduceAdd] at hO
  clear hR ho9 hg9 hs9
  go_wp2_with fail
  go_ret
  exact ⟨_, _, rfl, hO.out.toC, hw1.out.trans hK.out⟩
set_option maxRecDepth 100000 in
set_option maxHeartbeats 4000000 in
theorem words_1hl (h n : Int) (nm lf vl : List UInt8) (N L V : ByteArray) (w : World) (ht : Hid (VerbsOk w)) (hN : Hid (N = ⟨nm.toArray⟩)) (hL : Hid (L = ⟨lf.toArray⟩)) (hV : Hid (V = ⟨vl.toArray⟩)) (hh0 : h ≠ 0) (hlf : lf ≠ []) :
    Calls Tryz.prog 55 #[.agg #[.int .i64 1, .int .i64 h, .string N, .string L, .string V, .int .i64 n]] w (WordsOut [verbW 1, headW h, nm, lf, vl] w) := by
  obtain ⟨i0, hi, hz0, hz1, hz2⟩ := info_parts strInfoAll
  obtain ⟨X0, hX0⟩ : ∃ X : ByteArray, X = ⟨(verbW 1).toArray⟩ := ⟨_, rfl⟩
  obtain ⟨W1, hW1⟩ : ∃ W1, W1 = w.alloc (.cells #[.int .i64 1, .int .i64 h, .string N, .string L, .string V, .int .i64 n] 56) := ⟨_, rfl⟩
  obtain ⟨W2, hW2⟩ : ∃ W2, W2 = W1.alloc (.cells #[.string X0] 9) := ⟨_, rfl⟩
  have hB1 : Hid (BlkAt W1 w.heap.size 56 [.int .i64 1, .int .i64 h, .string N, .string L, .string V, .int .i64 n]) := Lib.hid (by rw [hW1]; exact BlkAt.new w 56 [.int .i64 1, .int .i64 h, .string N, .string L, .string V, .int .i64 n])
  have hs1 : W1.heap.size = w.heap.size + 1 := by rw [hW1]; simp
  have hO : Hid (OwnStrs W1 W2 (.slice (some ⟨w.heap.size + 1, 0, none⟩) 1 1) [verbW 1]) := Lib.hid (by rw [hW2, ← hs1, hX0]; exact OwnStrs.one W1 (verbW 1))
  have hK : Hid (Keeps (fun _ => False) W1 W2) := Lib.hid (by rw [hW2]; exact (Keeps.refl _ _).alloc _)
  have hw1 : Hid (Keeps (fun _ => False) w W1) := Lib.hid (by rw [hW1]; exact (Keeps.refl _ _).alloc _)
  have c0 := (BlkAt.new w 56 [.int .i64 1, .int .i64 h, .string N, .string L, .string V, .int .i64 n]).cell 0 _ rfl
  have ht1 := Lib.hid (ht.out.keep ((Keeps.refl (fun _ => False) w).alloc (.cells #[.int .i64 1, .int .i64 h, .string N, .string L, .string V, .int .i64 n] 56)))
  have hX0' := Lib.hid hX0; have hs1' := Lib.hid hs1
  rw [hW1] at hW2
  have hW2' := Lib.hid hW2
  clear hX0 hs1 hW1 hW2 ht
  go_enter Tryz.func55, Tryz.ntmps55
  go_wp2_with fail
  refine (verbWord_any 1 X0 _ ht1 hX0').mono ?_
  rintro e w2 ⟨rfl, rfl⟩
  go_upto_region 2 with fail
  rw [← hW2'.out]
  clear hW2' c0 ht1
  have hBl := hB1.out.keep hK.out id
  have c0 := hBl.cell 0 _ rfl
  have c1 := hBl.cell 1 _ rfl
  have c2 := hBl.cell 2 _ rfl
  have c3 := hBl.cell 3 _ rfl
  have c4 := hBl.cell 4 _ rfl
  have c5 := hBl.cell 5 _ rfl
  clear hBl
  have fh : (h != 0) = true := by rw [bne_iff_ne]; exact hh0
  go_upto_region 6 with fail
  clear c0 c1 c2 c3 c4 c5
  obtain ⟨X1, hX1⟩ : ∃ X : ByteArray, X = ⟨(headW h).toArray⟩ := ⟨_, rfl⟩
  have hX1' := Lib.hid hX1; clear hX1
  refine wp_region_noPanic ?_
  refine wp_region_held_drew (S := (fun W => Keeps (fun _ => False) W1 W)) (by kernel_rfl) ((hK.out.drew)) (fun hHeld => ?_)
  refine tk 0 rfl ?_
  refine tk 1 rfl ?_
  refine tk 2 rfl ?_
  refine tkL 3 rfl (yieldsIf_load_cell (by rfl) 3 (.tmp 19) rfl w.heap.size 1 rfl _ (fun _ s => (hB1.out.keep s id).cell 1 _ rfl) (fun w s => load_intp w _ _ _ s)) ?_
  refine tk 5 rfl ?_
  refine tk 6 rfl ?_
  refine tkL 7 rfl (yieldsIf_load_cell (by rfl) 9 (.tmp 23) rfl w.heap.size 2 rfl _ (fun _ s => (hB1.out.keep s id).cell 2 _ rfl) (fun w s => load_strp w _ _ _ s)) ?_
  refine stepL 4 rfl (by kernel_rfl) (fun K hK => ?_)
  go_simp
  (refine (pHeadWord_any h X1 _ hX1').mono ?_; rintro e w3 ⟨rfl, rfl⟩)
  go_wp2_with fail
  refine hK.out _ _ (hHeld) (fun hHeld => ?_)
  clear hK K
  try simp only [Act.put, sA, sZ, sS]
  refine stepL 8 rfl (by kernel_rfl) (fun K hK => ?_)
  go_simp
  refine hK.out _ _ ((hHeld.alloc _)) (fun hHeld => ?_)
  clear hK K
  try simp only [Act.put, sA, sZ, sS]
  refine stepL 9 rfl (by kernel_rfl) (fun K hK => ?_)
  rw [if_pos (by rfl)]
  (refine wp_append_sep (.tmp 17) (.tmp 25) 65 rfl 9 i0 (.string ⟨#[]⟩) 1 16 Tryz.underlying65 hi hz0 hz1 hz2 rfl (by decide) _ 1 ([verbW 1].map strv) rfl (World.ownsRow.alloc (own_keep hO.out ((Keeps.refl (fun _ => False) W2).drew)).1 _) ⟨W2.heap.size, 0, none⟩ 2 2 [.string X1, .string N] rfl rfl (cells_new rfl _ _) (by simp [Value.oneCell']) (by unfold maxLen; omega) (by omega) ?_; intro p9 d9 w9 ho1 hg1 hs1; have ho9 := Lib.hid ho1; have hg9 := Lib.hid hg1; have hs9 := Lib.hid hs1; clear ho1 hs1)
  refine hK.out _ _ ((hHeld.grown hg1 (fun k e => .inr (hO.out.2 k e)))) (fun hHeld => ?_)
  clear hK K
  try simp only [Act.put, sA, sZ, sS]
  refine tk 10 rfl ?_
  refine wpAnyH_done (by kernel_rfl) (NoPanic.normal ?_) _
  clear hHeld
  have hR := OwnStrs.pushes hO.out [headW h, nm] (((Keeps.refl (fun _ => False) W2).drew).alloc (.cells #[.string X1, .string N] 9) |> (hK.out.trans ·)) hg9.out (by have h9 := ho9.out; rw [hX1'.out, hN.out] at h9; exact h9) hs9.out
  have hO := Lib.hid hR.1; have hK := Lib.hid hR.2
  simp only [List.cons_append, List.nil_append, List.length_cons, List.length_nil, Nat.zero_add, Nat.reduceAdd] at hO
  clear hR ho9 hg9 hs9
  have hBl := hB1.out.keep hK.out id
  have c0 := hBl.cell 0 _ rfl
  have c1 := hBl.cell 1 _ rfl
  have c2 := hBl.cell 2 _ rfl
  have c3 := hBl.cell 3 _ rfl
  have c4 := hBl.cell 4 _ rfl
  have c5 := hBl.cell 5 _ rfl
  clear hBl
  have g1 : L.toList.isEmpty = false := by rw [Lib.toList_data, hL.out]; cases lf with | nil => exact absurd rfl hlf | cons x y => rfl
  have g2 : (L.toList != []) = true := by rw [bne_iff_ne]; intro e; rw [e] at g1; cases g1
  have g3 : (L.toList == []) = false := by rw [beq_eq_false_iff_ne]; intro e; rw [e] at g1; cases g1
  clear hlf
  go_upto_region 9 with ((with_reducible refine at_slot 36 ?_); refine wpList_append_sep rfl (.tmp 31) (.tmp 35) 65 rfl 9 i0 (.string ⟨#[]⟩) 1 16 Tryz.underlying65 hi hz0 hz1 hz2 rfl (by decide) _ 3 ([verbW 1, headW h, nm].map strv) rfl (hO.out.1.alloc _) ⟨w9.heap.size, 0, none⟩ 1 1 [.string L] rfl rfl (cells_new (by simp) _ _) (by simp [Value.oneCell']) (by unfold maxLen; omega) (by omega) ?_; intro p9 d9 w9 ho1 hg1 hs1; have ho9 := Lib.hid ho1; have hg9 := Lib.hid hg1; have hs9 := Lib.hid hs1; clear ho1 hg1 hs1)
  clear c0 c1 c2 c3 c4 c5
  have hR := OwnStrs.pushes hO.out [lf] (hK.out.alloc _) hg9.out (by have h9 := ho9.out; rw [hL.out] at h9; exact h9) hs9.out
  have hO := Lib.hid hR.1; have hK := Lib.hid hR.2
  simp only [List.cons_append, List.nil_append, List.length_cons, List.length_nil, Nat.zero_add, Nat.reduceAdd] at hO
  clear hR ho9 hg9 hs9
  have hBl := hB1.out.keep hK.out id
  have c0 := hBl.cell 0 _ rfl
  have c1 := hBl.cell 1 _ rfl
  have c2 := hBl.cell 2 _ rfl
  have c3 := hBl.cell 3 _ rfl
  have c4 := hBl.cell 4 _ rfl
  have c5 := hBl.cell 5 _ rfl
  clear hBl
  go_upto_region 14 with ((with_reducible refine at_slot 45 ?_); refine wpList_append_sep rfl (.tmp 40) (.tmp 44) 65 rfl 9 i0 (.string ⟨#[]⟩) 1 16 Tryz.underlying65 hi hz0 hz1 hz2 rfl (by decide) _ 4 ([verbW 1, headW h, nm, lf].map strv) rfl (hO.out.1.alloc _) ⟨w9.heap.size, 0, none⟩ 1 1 [.string V] rfl rfl (cells_new (by simp) _ _) (by simp [Value.oneCell']) (by unfold maxLen; omega) (by omega) ?_; intro p9 d9 w9 ho1 hg1 hs1; have ho9 := Lib.hid ho1; have hg9 := Lib.hid hg1; have hs9 := Lib.hid hs1; clear ho1 hg1 hs1)
  clear c0 c1 c2 c3 c4 c5
  have hR := OwnStrs.pushes hO.out [vl] (hK.out.alloc _) hg9.out (by have h9 := ho9.out; rw [hV.out] at h9; exact h9) hs9.out
  have hO := Lib.hid hR.1; have hK := Lib.hid hR.2
  simp only [List.cons_append, List.nil_append, List.length_cons, List.length_nil, Nat.zero_add, Nat.reduceAdd] at hO
  clear hR ho9 hg9 hs9
  go_wp2_with fail
  go_ret
  exact ⟨_, _, rfl, hO.out.toC, hw1.out.trans hK.out⟩
set_option maxRecDepth 100000 in
set_option maxHeartbeats 4000000 in
theorem words_2te (n : Int) (nm lf vl : List UInt8) (N L V : ByteArray) (w : World) (ht : Hid (VerbsOk w)) (hN : Hid (N = ⟨nm.toArray⟩)) (hL : Hid (L = ⟨lf.toArray⟩)) (hV : Hid (V = ⟨vl.toArray⟩)) (hlf : lf = []) :
    Calls Tryz.prog 55 #[.agg #[.int .i64 2, .int .i64 0, .string N, .string L, .string V, .int .i64 n]] w (WordsOut [verbW 2] w) := by
  obtain ⟨i0, hi, hz0, hz1, hz2⟩ := info_parts strInfoAll
  obtain ⟨X0, hX0⟩ : ∃ X : ByteArray, X = ⟨(verbW 2).toArray⟩ := ⟨_, rfl⟩
  obtain ⟨W1, hW1⟩ : ∃ W1, W1 = w.alloc (.cells #[.int .i64 2, .int .i64 0, .string N, .string L, .string V, .int .i64 n] 56) := ⟨_, rfl⟩
  obtain ⟨W2, hW2⟩ : ∃ W2, W2 = W1.alloc (.cells #[.string X0] 9) := ⟨_, rfl⟩
  have hB1 : Hid (BlkAt W1 w.heap.size 56 [.int .i64 2, .int .i64 0, .string N, .string L, .string V, .int .i64 n]) := Lib.hid (by rw [hW1]; exact BlkAt.new w 56 [.int .i64 2, .int .i64 0, .string N, .string L, .string V, .int .i64 n])
  have hs1 : W1.heap.size = w.heap.size + 1 := by rw [hW1]; simp
  have hO : Hid (OwnStrs W1 W2 (.slice (some ⟨w.heap.size + 1, 0, none⟩) 1 1) [verbW 2]) := Lib.hid (by rw [hW2, ← hs1, hX0]; exact OwnStrs.one W1 (verbW 2))
  have hK : Hid (Keeps (fun _ => False) W1 W2) := Lib.hid (by rw [hW2]; exact (Keeps.refl _ _).alloc _)
  have hw1 : Hid (Keeps (fun _ => False) w W1) := Lib.hid (by rw [hW1]; exact (Keeps.refl _ _).alloc _)
  have c0 := (BlkAt.new w 56 [.int .i64 2, .int .i64 0, .string N, .string L, .string V, .int .i64 n]).cell 0 _ rfl
  have ht1 := Lib.hid (ht.out.keep ((Keeps.refl (fun _ => False) w).alloc (.cells #[.int .i64 2, .int .i64 0, .string N, .string L, .string V, .int .i64 n] 56)))
  have hX0' := Lib.hid hX0; have hs1' := Lib.hid hs1
  rw [hW1] at hW2
  have hW2' := Lib.hid hW2
  clear hX0 hs1 hW1 hW2 ht
  go_enter Tryz.func55, Tryz.ntmps55
  go_wp2_with fail
  refine (verbWord_any 2 X0 _ ht1 hX0').mono ?_
  rintro e w2 ⟨rfl, rfl⟩
  go_upto_region 2 with fail
  rw [← hW2'.out]
  clear hW2' c0 ht1
  have hBl := hB1.out.keep hK.out id
  have c0 := hBl.cell 0 _ rfl
  have c1 := hBl.cell 1 _ rfl
  have c2 := hBl.cell 2 _ rfl
  have c3 := hBl.cell 3 _ rfl
  have c4 := hBl.cell 4 _ rfl
  have c5 := hBl.cell 5 _ rfl
  clear hBl
  have fh : True := trivial
  obtain rfl : L = ⟨#[]⟩ := by rw [hL.out, hlf]
  clear hlf
  go_wp2_with fail
  go_ret
  exact ⟨_, _, rfl, hO.out.toC, hw1.out.trans hK.out⟩
set_option maxRecDepth 100000 in
set_option maxHeartbeats 4000000 in
theorem words_2tl (n : Int) (nm lf vl : List UInt8) (N L V : ByteArray) (w : World) (ht : Hid (VerbsOk w)) (hN : Hid (N = ⟨nm.toArray⟩)) (hL : Hid (L = ⟨lf.toArray⟩)) (hV : Hid (V = ⟨vl.toArray⟩)) (hlf : lf ≠ []) :
    Calls Tryz.prog 55 #[.agg #[.int .i64 2, .int .i64 0, .string N, .string L, .string V, .int .i64 n]] w (WordsOut [verbW 2, lf] w) := by
  obtain ⟨i0, hi, hz0, hz1, hz2⟩ := info_parts strInfoAll
  obtain ⟨X0, hX0⟩ : ∃ X : ByteArray, X = ⟨(verbW 2).toArray⟩ := ⟨_, rfl⟩
  obtain ⟨W1, hW1⟩ : ∃ W1, W1 = w.alloc (.cells #[.int .i64 2, .int .i64 0, .string N, .string L, .string V, .int .i64 n] 56) := ⟨_, rfl⟩
  obtain ⟨W2, hW2⟩ : ∃ W2, W2 = W1.alloc (.cells #[.string X0] 9) := ⟨_, rfl⟩
  have hB1 : Hid (BlkAt W1 w.heap.size 56 [.int .i64 2, .int .i64 0, .string N, .string L, .string V, .int .i64 n]) := Lib.hid (by rw [hW1]; exact BlkAt.new w 56 [.int .i64 2, .int .i64 0, .string N, .string L, .string V, .int .i64 n])
  have hs1 : W1.heap.size = w.heap.size + 1 := by rw [hW1]; simp
  have hO : Hid (OwnStrs W1 W2 (.slice (some ⟨w.heap.size + 1, 0, none⟩) 1 1) [verbW 2]) := Lib.hid (by rw [hW2, ← hs1, hX0]; exact OwnStrs.one W1 (verbW 2))
  have hK : Hid (Keeps (fun _ => False) W1 W2) := Lib.hid (by rw [hW2]; exact (Keeps.refl _ _).alloc _)
  have hw1 : Hid (Keeps (fun _ => False) w W1) := Lib.hid (by rw [hW1]; exact (Keeps.refl _ _).alloc _)
  have c0 := (BlkAt.new w 56 [.int .i64 2, .int .i64 0, .string N, .string L, .string V, .int .i64 n]).cell 0 _ rfl
  have ht1 := Lib.hid (ht.out.keep ((Keeps.refl (fun _ => False) w).alloc (.cells #[.int .i64 2, .int .i64 0, .string N, .string L, .string V, .int .i64 n] 56)))
  have hX0' := Lib.hid hX0; have hs1' := Lib.hid hs1
  rw [hW1] at hW2
  have hW2' := Lib.hid hW2
  clear hX0 hs1 hW1 hW2 ht
  go_enter Tryz.func55, Tryz.ntmps55
  go_wp2_with fail
  refine (verbWord_any 2 X0 _ ht1 hX0').mono ?_
  rintro e w2 ⟨rfl, rfl⟩
  go_upto_region 2 with fail
  rw [← hW2'.out]
  clear hW2' c0 ht1
  have hBl := hB1.out.keep hK.out id
  have c0 := hBl.cell 0 _ rfl
  have c1 := hBl.cell 1 _ rfl
  have c2 := hBl.cell 2 _ rfl
  have c3 := hBl.cell 3 _ rfl
  have c4 := hBl.cell 4 _ rfl
  have c5 := hBl.cell 5 _ rfl
  clear hBl
  have fh : True := trivial
  have g1 : L.toList.isEmpty = false := by rw [Lib.toList_data, hL.out]; cases lf with | nil => exact absurd rfl hlf | cons x y => rfl
  have g2 : (L.toList != []) = true := by rw [bne_iff_ne]; intro e; rw [e] at g1; cases g1
  have g3 : (L.toList == []) = false := by rw [beq_eq_false_iff_ne]; intro e; rw [e] at g1; cases g1
  clear hlf
  go_upto_region 9 with ((with_reducible refine at_slot 36 ?_); refine wpList_append_sep rfl (.tmp 31) (.tmp 35) 65 rfl 9 i0 (.string ⟨#[]⟩) 1 16 Tryz.underlying65 hi hz0 hz1 hz2 rfl (by decide) _ 1 ([verbW 2].map strv) rfl (hO.out.1.alloc _) ⟨W2.heap.size, 0, none⟩ 1 1 [.string L] rfl rfl (cells_new (by simp) _ _) (by simp [Value.oneCell']) (by unfold maxLen; omega) (by omega) ?_; intro p9 d9 w9 ho1 hg1 hs1; have ho9 := Lib.hid ho1; have hg9 := Lib.hid hg1; have hs9 := Lib.hid hs1; clear ho1 hg1 hs1)
  clear c0 c1 c2 c3 c4 c5
  have hR := OwnStrs.pushes hO.out [lf] (hK.out.alloc _) hg9.out (by have h9 := ho9.out; rw [hL.out] at h9; exact h9) hs9.out
  have hO := Lib.hid hR.1; have hK := Lib.hid hR.2
  simp only [List.cons_append, List.nil_append, List.length_cons, List.length_nil, Nat.zero_add, Nat.reduceAdd] at hO
  clear hR ho9 hg9 hs9
  have hBl := hB1.out.keep hK.out id
  have c0 := hBl.cell 0 _ rfl
  have c1 := hBl.cell 1 _ rfl
  have c2 := hBl.cell 2 _ rfl
  have c3 := hBl.cell 3 _ rfl
  have c4 := hBl.cell 4 _ rfl
  have c5 := hBl.cell 5 _ rfl
  clear hBl
  go_wp2_with fail
  go_ret
  exact ⟨_, _, rfl, hO.out.toC, hw1.out.trans hK.out⟩
set_option maxRecDepth 100000 in
set_option maxHeartbeats 4000000 in
theorem words_2he (h n : Int) (nm lf vl : List UInt8) (N L V : ByteArray) (w : World) (ht : Hid (VerbsOk w)) (hN : Hid (N = ⟨nm.toArray⟩)) (hL : Hid (L = ⟨lf.toArray⟩)) (hV : Hid (V = ⟨vl.toArray⟩)) (hh0 : h ≠ 0) (hlf : lf = []) :
    Calls Tryz.prog 55 #[.agg #[.int .i64 2, .int .i64 h, .string N, .string L, .string V, .int .i64 n]] w (WordsOut [verbW 2, headW h, nm] w) := by
  obtain ⟨i0, hi, hz0, hz1, hz2⟩ := info_parts strInfoAll
  obtain ⟨X0, hX0⟩ : ∃ X : ByteArray, X = ⟨(verbW 2).toArray⟩ := ⟨_, rfl⟩
  obtain ⟨W1, hW1⟩ : ∃ W1, W1 = w.alloc (.cells #[.int .i64 2, .int .i64 h, .string N, .string L, .string V, .int .i64 n] 56) := ⟨_, rfl⟩
  obtain ⟨W2, hW2⟩ : ∃ W2, W2 = W1.alloc (.cells #[.string X0] 9) := ⟨_, rfl⟩
  have hB1 : Hid (BlkAt W1 w.heap.size 56 [.int .i64 2, .int .i64 h, .string N, .string L, .string V, .int .i64 n]) := Lib.hid (by rw [hW1]; exact BlkAt.new w 56 [.int .i64 2, .int .i64 h, .string N, .string L, .string V, .int .i64 n])
  have hs1 : W1.heap.size = w.heap.size + 1 := by rw [hW1]; simp
  have hO : Hid (OwnStrs W1 W2 (.slice (some ⟨w.heap.size + 1, 0, none⟩) 1 1) [verbW 2]) := Lib.hid (by rw [hW2, ← hs1, hX0]; exact OwnStrs.one W1 (verbW 2))
  have hK : Hid (Keeps (fun _ => False) W1 W2) := Lib.hid (by rw [hW2]; exact (Keeps.refl _ _).alloc _)
  have hw1 : Hid (Keeps (fun _ => False) w W1) := Lib.hid (by rw [hW1]; exact (Keeps.refl _ _).alloc _)
  have c0 := (BlkAt.new w 56 [.int .i64 2, .int .i64 h, .string N, .string L, .string V, .int .i64 n]).cell 0 _ rfl
  have ht1 := Lib.hid (ht.out.keep ((Keeps.refl (fun _ => False) w).alloc (.cells #[.int .i64 2, .int .i64 h, .string N, .string L, .string V, .int .i64 n] 56)))
  have hX0' := Lib.hid hX0; have hs1' := Lib.hid hs1
  rw [hW1] at hW2
  have hW2' := Lib.hid hW2
  clear hX0 hs1 hW1 hW2 ht
  go_enter Tryz.func55, Tryz.ntmps55
  go_wp2_with fail
  refine (verbWord_any 2 X0 _ ht1 hX0').mono ?_
  rintro e w2 ⟨rfl, rfl⟩
  go_upto_region 2 with fail
  rw [← hW2'.out]
  clear hW2' c0 ht1
  have hBl := hB1.out.keep hK.out id
  have c0 := hBl.cell 0 _ rfl
  have c1 := hBl.cell 1 _ rfl
  have c2 := hBl.cell 2 _ rfl
  have c3 := hBl.cell 3 _ rfl
  have c4 := hBl.cell 4 _ rfl
  have c5 := hBl.cell 5 _ rfl
  clear hBl
  have fh : (h != 0) = true := by rw [bne_iff_ne]; exact hh0
  go_upto_region 6 with fail
  clear c0 c1 c2 c3 c4 c5
  obtain ⟨X1, hX1⟩ : ∃ X : ByteArray, X = ⟨(headW h).toArray⟩ := ⟨_, rfl⟩
  have hX1' := Lib.hid hX1; clear hX1
  refine wp_region_noPanic ?_
  refine wp_region_held_drew (S := (fun W => Keeps (fun _ => False) W1 W)) (by kernel_rfl) ((hK.out.drew)) (fun hHeld => ?_)
  refine tk 0 rfl ?_
  refine tk 1 rfl ?_
  refine tk 2 rfl ?_
  refine tkL 3 rfl (yieldsIf_load_cell (by rfl) 3 (.tmp 19) rfl w.heap.size 1 rfl _ (fun _ s => (hB1.out.keep s id).cell 1 _ rfl) (fun w s => load_intp w _ _ _ s)) ?_
  refine tk 5 rfl ?_
  refine tk 6 rfl ?_
  refine tkL 7 rfl (yieldsIf_load_cell (by rfl) 9 (.tmp 23) rfl w.heap.size 2 rfl _ (fun _ s => (hB1.out.keep s id).cell 2 _ rfl) (fun w s => load_strp w _ _ _ s)) ?_
  refine stepL 4 rfl (by kernel_rfl) (fun K hK => ?_)
  go_simp
  (refine (pHeadWord_any h X1 _ hX1').mono ?_; rintro e w3 ⟨rfl, rfl⟩)
  go_wp2_with fail
  refine hK.out _ _ (hHeld) (fun hHeld => ?_)
  clear hK K
  try simp only [Act.put, sA, sZ, sS]
  refine stepL 8 rfl (by kernel_rfl) (fun K hK => ?_)
  go_simp
  refine hK.out _ _ ((hHeld.alloc _)) (fun hHeld => ?_)
  clear hK K
  try simp only [Act.put, sA, sZ, sS]
  refine stepL 9 rfl (by kernel_rfl) (fun K hK => ?_)
  rw [if_pos (by rfl)]
  (refine wp_append_sep (.tmp 17) (.tmp 25) 65 rfl 9 i0 (.string ⟨#[]⟩) 1 16 Tryz.underlying65 hi hz0 hz1 hz2 rfl (by decide) _ 1 ([verbW 2].map strv) rfl (World.ownsRow.alloc (own_keep hO.out ((Keeps.refl (fun _ => False) W2).drew)).1 _) ⟨W2.heap.size, 0, none⟩ 2 2 [.string X1, .string N] rfl rfl (cells_new rfl _ _) (by simp [Value.oneCell']) (by unfold maxLen; omega) (by omega) ?_; intro p9 d9 w9 ho1 hg1 hs1; have ho9 := Lib.hid ho1; have hg9 := Lib.hid hg1; have hs9 := Lib.hid hs1; clear ho1 hs1)
  refine hK.out _ _ ((hHeld.grown hg1 (fun k e => .inr (hO.out.2 k e)))) (fun hHeld => ?_)
  clear hK K
  try simp only [Act.put, sA, sZ, sS]
  refine tk 10 rfl ?_
  refine wpAnyH_done (by kernel_rfl) (NoPanic.normal ?_) _
  clear hHeld
  have hR := OwnStrs.pushes hO.out [headW h, nm] (((Keeps.refl (fun _ => False) W2).drew).alloc (.cells #[.string X1, .string N] 9) |> (hK.out.trans ·)) hg9.out (by have h9 := ho9.out; rw [hX1'.out, hN.out] at h9; exact h9) hs9.out
  have hO := Lib.hid hR.1; have hK := Lib.hid hR.2
  simp only [List.cons_append, List.nil_append, List.length_cons, List.length_nil, Nat.zero_add, Nat.reduceAdd] at hO
  clear hR ho9 hg9 hs9
  have hBl := hB1.out.keep hK.out id
  have c0 := hBl.cell 0 _ rfl
  have c1 := hBl.cell 1 _ rfl
  have c2 := hBl.cell 2 _ rfl
  have c3 := hBl.cell 3 _ rfl
  have c4 := hBl.cell 4 _ rfl
  have c5 := hBl.cell 5 _ rfl
  clear hBl
  obtain rfl : L = ⟨#[]⟩ := by rw [hL.out, hlf]
  clear hlf
  go_wp2_with fail
  go_ret
  exact ⟨_, _, rfl, hO.out.toC, hw1.out.trans hK.out⟩
set_option maxRecDepth 100000 in
set_option maxHeartbeats 4000000 in
theorem words_2hl (h n : Int) (nm lf vl : List UInt8) (N L V : ByteArray) (w : World) (ht : Hid (VerbsOk w)) (hN : Hid (N = ⟨nm.toArray⟩)) (hL : Hid (L = ⟨lf.toArray⟩)) (hV : Hid (V = ⟨vl.toArray⟩)) (hh0 : h ≠ 0) (hlf : lf ≠ []) :
    Calls Tryz.prog 55 #[.agg #[.int .i64 2, .int .i64 h, .string N, .string L, .string V, .int .i64 n]] w (WordsOut [verbW 2, headW h, nm, lf] w) := by
  obtain ⟨i0, hi, hz0, hz1, hz2⟩ := info_parts strInfoAll
  obtain ⟨X0, hX0⟩ : ∃ X : ByteArray, X = ⟨(verbW 2).toArray⟩ := ⟨_, rfl⟩
  obtain ⟨W1, hW1⟩ : ∃ W1, W1 = w.alloc (.cells #[.int .i64 2, .int .i64 h, .string N, .string L, .string V, .int .i64 n] 56) := ⟨_, rfl⟩
  obtain ⟨W2, hW2⟩ : ∃ W2, W2 = W1.alloc (.cells #[.string X0] 9) := ⟨_, rfl⟩
  have hB1 : Hid (BlkAt W1 w.heap.size 56 [.int .i64 2, .int .i64 h, .string N, .string L, .string V, .int .i64 n]) := Lib.hid (by rw [hW1]; exact BlkAt.new w 56 [.int .i64 2, .int .i64 h, .string N, .string L, .string V, .int .i64 n])
  have hs1 : W1.heap.size = w.heap.size + 1 := by rw [hW1]; simp
  have hO : Hid (OwnStrs W1 W2 (.slice (some ⟨w.heap.size + 1, 0, none⟩) 1 1) [verbW 2]) := Lib.hid (by rw [hW2, ← hs1, hX0]; exact OwnStrs.one W1 (verbW 2))
  have hK : Hid (Keeps (fun _ => False) W1 W2) := Lib.hid (by rw [hW2]; exact (Keeps.refl _ _).alloc _)
  have hw1 : Hid (Keeps (fun _ => False) w W1) := Lib.hid (by rw [hW1]; exact (Keeps.refl _ _).alloc _)
  have c0 := (BlkAt.new w 56 [.int .i64 2, .int .i64 h, .string N, .string L, .string V, .int .i64 n]).cell 0 _ rfl
  have ht1 := Lib.hid (ht.out.keep ((Keeps.refl (fun _ => False) w).alloc (.cells #[.int .i64 2, .int .i64 h, .string N, .string L, .string V, .int .i64 n] 56)))
  have hX0' := Lib.hid hX0; have hs1' := Lib.hid hs1
  rw [hW1] at hW2
  have hW2' := Lib.hid hW2
  clear hX0 hs1 hW1 hW2 ht
  go_enter Tryz.func55, Tryz.ntmps55
  go_wp2_with fail
  refine (verbWord_any 2 X0 _ ht1 hX0').mono ?_
  rintro e w2 ⟨rfl, rfl⟩
  go_upto_region 2 with fail
  rw [← hW2'.out]
  clear hW2' c0 ht1
  have hBl := hB1.out.keep hK.out id
  have c0 := hBl.cell 0 _ rfl
  have c1 := hBl.cell 1 _ rfl
  have c2 := hBl.cell 2 _ rfl
  have c3 := hBl.cell 3 _ rfl
  have c4 := hBl.cell 4 _ rfl
  have c5 := hBl.cell 5 _ rfl
  clear hBl
  have fh : (h != 0) = true := by rw [bne_iff_ne]; exact hh0
  go_upto_region 6 with fail
  clear c0 c1 c2 c3 c4 c5
  obtain ⟨X1, hX1⟩ : ∃ X : ByteArray, X = ⟨(headW h).toArray⟩ := ⟨_, rfl⟩
  have hX1' := Lib.hid hX1; clear hX1
  refine wp_region_noPanic ?_
  refine wp_region_held_drew (S := (fun W => Keeps (fun _ => False) W1 W)) (by kernel_rfl) ((hK.out.drew)) (fun hHeld => ?_)
  refine tk 0 rfl ?_
  refine tk 1 rfl ?_
  refine tk 2 rfl ?_
  refine tkL 3 rfl (yieldsIf_load_cell (by rfl) 3 (.tmp 19) rfl w.heap.size 1 rfl _ (fun _ s => (hB1.out.keep s id).cell 1 _ rfl) (fun w s => load_intp w _ _ _ s)) ?_
  refine tk 5 rfl ?_
  refine tk 6 rfl ?_
  refine tkL 7 rfl (yieldsIf_load_cell (by rfl) 9 (.tmp 23) rfl w.heap.size 2 rfl _ (fun _ s => (hB1.out.keep s id).cell 2 _ rfl) (fun w s => load_strp w _ _ _ s)) ?_
  refine stepL 4 rfl (by kernel_rfl) (fun K hK => ?_)
  go_simp
  (refine (pHeadWord_any h X1 _ hX1').mono ?_; rintro e w3 ⟨rfl, rfl⟩)
  go_wp2_with fail
  refine hK.out _ _ (hHeld) (fun hHeld => ?_)
  clear hK K
  try simp only [Act.put, sA, sZ, sS]
  refine stepL 8 rfl (by kernel_rfl) (fun K hK => ?_)
  go_simp
  refine hK.out _ _ ((hHeld.alloc _)) (fun hHeld => ?_)
  clear hK K
  try simp only [Act.put, sA, sZ, sS]
  refine stepL 9 rfl (by kernel_rfl) (fun K hK => ?_)
  rw [if_pos (by rfl)]
  (refine wp_append_sep (.tmp 17) (.tmp 25) 65 rfl 9 i0 (.string ⟨#[]⟩) 1 16 Tryz.underlying65 hi hz0 hz1 hz2 rfl (by decide) _ 1 ([verbW 2].map strv) rfl (World.ownsRow.alloc (own_keep hO.out ((Keeps.refl (fun _ => False) W2).drew)).1 _) ⟨W2.heap.size, 0, none⟩ 2 2 [.string X1, .string N] rfl rfl (cells_new rfl _ _) (by simp [Value.oneCell']) (by unfold maxLen; omega) (by omega) ?_; intro p9 d9 w9 ho1 hg1 hs1; have ho9 := Lib.hid ho1; have hg9 := Lib.hid hg1; have hs9 := Lib.hid hs1; clear ho1 hs1)
  refine hK.out _ _ ((hHeld.grown hg1 (fun k e => .inr (hO.out.2 k e)))) (fun hHeld => ?_)
  clear hK K
  try simp only [Act.put, sA, sZ, sS]
  refine tk 10 rfl ?_
  refine wpAnyH_done (by kernel_rfl) (NoPanic.normal ?_) _
  clear hHeld
  have hR := OwnStrs.pushes hO.out [headW h, nm] (((Keeps.refl (fun _ => False) W2).drew).alloc (.cells #[.string X1, .string N] 9) |> (hK.out.trans ·)) hg9.out (by have h9 := ho9.out; rw [hX1'.out, hN.out] at h9; exact h9) hs9.out
  have hO := Lib.hid hR.1; have hK := Lib.hid hR.2
  simp only [List.cons_append, List.nil_append, List.length_cons, List.length_nil, Nat.zero_add, Nat.reduceAdd] at hO
  clear hR ho9 hg9 hs9
  have hBl := hB1.out.keep hK.out id
  have c0 := hBl.cell 0 _ rfl
  have c1 := hBl.cell 1 _ rfl
  have c2 := hBl.cell 2 _ rfl
  have c3 := hBl.cell 3 _ rfl
  have c4 := hBl.cell 4 _ rfl
  have c5 := hBl.cell 5 _ rfl
  clear hBl
  have g1 : L.toList.isEmpty = false := by rw [Lib.toList_data, hL.out]; cases lf with | nil => exact absurd rfl hlf | cons x y => rfl
  have g2 : (L.toList != []) = true := by rw [bne_iff_ne]; intro e; rw [e] at g1; cases g1
  have g3 : (L.toList == []) = false := by rw [beq_eq_false_iff_ne]; intro e; rw [e] at g1; cases g1
  clear hlf
  go_upto_region 9 with ((with_reducible refine at_slot 36 ?_); refine wpList_append_sep rfl (.tmp 31) (.tmp 35) 65 rfl 9 i0 (.string ⟨#[]⟩) 1 16 Tryz.underlying65 hi hz0 hz1 hz2 rfl (by decide) _ 3 ([verbW 2, headW h, nm].map strv) rfl (hO.out.1.alloc _) ⟨w9.heap.size, 0, none⟩ 1 1 [.string L] rfl rfl (cells_new (by simp) _ _) (by simp [Value.oneCell']) (by unfold maxLen; omega) (by omega) ?_; intro p9 d9 w9 ho1 hg1 hs1; have ho9 := Lib.hid ho1; have hg9 := Lib.hid hg1; have hs9 := Lib.hid hs1; clear ho1 hg1 hs1)
  clear c0 c1 c2 c3 c4 c5
  have hR := OwnStrs.pushes hO.out [lf] (hK.out.alloc _) hg9.out (by have h9 := ho9.out; rw [hL.out] at h9; exact h9) hs9.out
  have hO := Lib.hid hR.1; have hK := Lib.hid hR.2
  simp only [List.cons_append, List.nil_append, List.length_cons, List.length_nil, Nat.zero_add, Nat.reduceAdd] at hO
  clear hR ho9 hg9 hs9
  have hBl := hB1.out.keep hK.out id
  have c0 := hBl.cell 0 _ rfl
  have c1 := hBl.cell 1 _ rfl
  have c2 := hBl.cell 2 _ rfl
  have c3 := hBl.cell 3 _ rfl
  have c4 := hBl.cell 4 _ rfl
  have c5 := hBl.cell 5 _ rfl
  clear hBl
  go_wp2_with fail
  go_ret
  exact ⟨_, _, rfl, hO.out.toC, hw1.out.trans hK.out⟩
set_option maxRecDepth 100000 in
set_option maxHeartbeats 4000000 in
theorem words_7 (h n : Int) (nm lf vl : List UInt8) (N L V : ByteArray) (w : World) (ht : Hid (VerbsOk w)) (hN : Hid (N = ⟨nm.toArray⟩)) (hL : Hid (L = ⟨lf.toArray⟩)) (hV : Hid (V = ⟨vl.toArray⟩)) (hn1 : -9223372036854775808 ≤ n) (hn2 : n ≤ 9223372036854775807) (htab : Hid (TabOk w)) :
    Calls Tryz.prog 55 #[.agg #[.int .i64 7, .int .i64 h, .string N, .string L, .string V, .int .i64 n]] w (WordsOut [verbW 7, itoaL n] w) := by
  obtain ⟨i0, hi, hz0, hz1, hz2⟩ := info_parts strInfoAll
  obtain ⟨X0, hX0⟩ : ∃ X : ByteArray, X = ⟨(verbW 7).toArray⟩ := ⟨_, rfl⟩
  obtain ⟨W1, hW1⟩ : ∃ W1, W1 = w.alloc (.cells #[.int .i64 7, .int .i64 h, .string N, .string L, .string V, .int .i64 n] 56) := ⟨_, rfl⟩
  obtain ⟨W2, hW2⟩ : ∃ W2, W2 = W1.alloc (.cells #[.string X0] 9) := ⟨_, rfl⟩
  have hB1 : Hid (BlkAt W1 w.heap.size 56 [.int .i64 7, .int .i64 h, .string N, .string L, .string V, .int .i64 n]) := Lib.hid (by rw [hW1]; exact BlkAt.new w 56 [.int .i64 7, .int .i64 h, .string N, .string L, .string V, .int .i64 n])
  have hs1 : W1.heap.size = w.heap.size + 1 := by rw [hW1]; simp
  have hO : Hid (OwnStrs W1 W2 (.slice (some ⟨w.heap.size + 1, 0, none⟩) 1 1) [verbW 7]) := Lib.hid (by rw [hW2, ← hs1, hX0]; exact OwnStrs.one W1 (verbW 7))
  have hK : Hid (Keeps (fun _ => False) W1 W2) := Lib.hid (by rw [hW2]; exact (Keeps.refl _ _).alloc _)
  have hw1 : Hid (Keeps (fun _ => False) w W1) := Lib.hid (by rw [hW1]; exact (Keeps.refl _ _).alloc _)
  have c0 := (BlkAt.new w 56 [.int .i64 7, .int .i64 h, .string N, .string L, .string V, .int .i64 n]).cell 0 _ rfl
  have ht1 := Lib.hid (ht.out.keep ((Keeps.refl (fun _ => False) w).alloc (.cells #[.int .i64 7, .int .i64 h, .string N, .string L, .string V, .int .i64 n] 56)))
  have hX0' := Lib.hid hX0; have hs1' := Lib.hid hs1
  rw [hW1] at hW2
  have hW2' := Lib.hid hW2
  clear hX0 hs1 hW1 hW2 ht
  go_enter Tryz.func55, Tryz.ntmps55
  go_wp2_with fail
  refine (verbWord_any 7 X0 _ ht1 hX0').mono ?_
  rintro e w2 ⟨rfl, rfl⟩
  go_upto_region 2 with fail
  rw [← hW2'.out]
  clear hW2' c0 ht1
  have hBl := hB1.out.keep hK.out id
  have c0 := hBl.cell 0 _ rfl
  have c1 := hBl.cell 1 _ rfl
  have c2 := hBl.cell 2 _ rfl
  have c3 := hBl.cell 3 _ rfl
  have c4 := hBl.cell 4 _ rfl
  have c5 := hBl.cell 5 _ rfl
  clear hBl
  obtain ⟨X1, hX1⟩ : ∃ X : ByteArray, X = ⟨(itoaL n).toArray⟩ := ⟨_, rfl⟩
  have hX1' := Lib.hid hX1; clear hX1
  have htab2 := Lib.hid (htab.out.keep (hw1.out.trans hK.out))
  go_wp2_with fail
  clear c0 c1 c2 c3 c4 c5
  refine (itoa_X n X1 _ hn1 hn2 htab2 hX1').mono ?_
  rintro e w3 ⟨rfl, k3⟩
  have hO := Lib.hid (own_keep hO.out k3); have hK := Lib.hid (hK.out.trans k3)
  clear k3
  go_upto_region 14 with ((with_reducible refine at_slot 54 ?_); refine wpList_append_sep rfl (.tmp 49) (.tmp 53) 65 rfl 9 i0 (.string ⟨#[]⟩) 1 16 Tryz.underlying65 hi hz0 hz1 hz2 rfl (by decide) _ 1 ([verbW 7].map strv) rfl (hO.out.1.alloc _) ⟨w3.heap.size, 0, none⟩ 1 1 [.string X1] rfl rfl (cells_new (by simp) _ _) (by simp [Value.oneCell']) (by unfold maxLen; omega) (by omega) ?_; intro p9 d9 w9 ho1 hg1 hs1; have ho9 := Lib.hid ho1; have hg9 := Lib.hid hg1; have hs9 := Lib.hid hs1; clear ho1 hg1 hs1)
  have hR := OwnStrs.pushes hO.out [itoaL n] (hK.out.alloc _) hg9.out (by have h9 := ho9.out; rw [hX1'.out] at h9; exact h9) hs9.out
  have hO := Lib.hid hR.1; have hK := Lib.hid hR.2
  simp only [List.cons_append, List.nil_append, List.length_cons, List.length_nil, Nat.zero_add, Nat.reduceAdd] at hO
  clear hR ho9 hg9 hs9
  go_wp2_with fail
  go_ret
  exact ⟨_, _, rfl, hO.out.toC, hw1.out.trans hK.out⟩
set_option maxRecDepth 100000 in
set_option maxHeartbeats 4000000 in
theorem words_9 (h n : Int) (nm lf vl : List UInt8) (N L V : ByteArray) (w : World) (ht : Hid (VerbsOk w)) (hN : Hid (N = ⟨nm.toArray⟩)) (hL : Hid (L = ⟨lf.toArray⟩)) (hV : Hid (V = ⟨vl.toArray⟩)) (hn1 : -9223372036854775808 ≤ n) (hn2 : n ≤ 9223372036854775807) (htab : Hid (TabOk w)) :
    Calls Tryz.prog 55 #[.agg #[.int .i64 9, .int .i64 h, .string N, .string L, .string V, .int .i64 n]] w (WordsOut [verbW 9, itoaL n] w) := by
  obtain ⟨i0, hi, hz0, hz1, hz2⟩ := info_parts strInfoAll
  obtain ⟨X0, hX0⟩ : ∃ X : ByteArray, X = ⟨(verbW 9).toArray⟩ := ⟨_, rfl⟩
  obtain ⟨W1, hW1⟩ : ∃ W1, W1 = w.alloc (.cells #[.int .i64 9, .int .i64 h, .string N, .string L, .string V, .int .i64 n] 56) := ⟨_, rfl⟩
  obtain ⟨W2, hW2⟩ : ∃ W2, W2 = W1.alloc (.cells #[.string X0] 9) := ⟨_, rfl⟩
  have hB1 : Hid (BlkAt W1 w.heap.size 56 [.int .i64 9, .int .i64 h, .string N, .string L, .string V, .int .i64 n]) := Lib.hid (by rw [hW1]; exact BlkAt.new w 56 [.int .i64 9, .int .i64 h, .string N, .string L, .string V, .int .i64 n])
  have hs1 : W1.heap.size = w.heap.size + 1 := by rw [hW1]; simp
  have hO : Hid (OwnStrs W1 W2 (.slice (some ⟨w.heap.size + 1, 0, none⟩) 1 1) [verbW 9]) := Lib.hid (by rw [hW2, ← hs1, hX0]; exact OwnStrs.one W1 (verbW 9))
  have hK : Hid (Keeps (fun _ => False) W1 W2) := Lib.hid (by rw [hW2]; exact (Keeps.refl _ _).alloc _)
  have hw1 : Hid (Keeps (fun _ => False) w W1) := Lib.hid (by rw [hW1]; exact (Keeps.refl _ _).alloc _)
  have c0 := (BlkAt.new w 56 [.int .i64 9, .int .i64 h, .string N, .string L, .string V, .int .i64 n]).cell 0 _ rfl
  have ht1 := Lib.hid (ht.out.keep ((Keeps.refl (fun _ => False) w).alloc (.cells #[.int .i64 9, .int .i64 h, .string N, .string L, .string V, .int .i64 n] 56)))
  have hX0' := Lib.hid hX0; have hs1' := Lib.hid hs1
  rw [hW1] at hW2
  have hW2' := Lib.hid hW2
  clear hX0 hs1 hW1 hW2 ht
  go_enter Tryz.func55, Tryz.ntmps55
  go_wp2_with fail
  refine (verbWord_any 9 X0 _ ht1 hX0').mono ?_
  rintro e w2 ⟨rfl, rfl⟩
  go_upto_region 2 with fail
  rw [← hW2'.out]
  clear hW2' c0 ht1
  have hBl := hB1.out.keep hK.out id
  have c0 := hBl.cell 0 _ rfl
  have c1 := hBl.cell 1 _ rfl
  have c2 := hBl.cell 2 _ rfl
  have c3 := hBl.cell 3 _ rfl
  have c4 := hBl.cell 4 _ rfl
  have c5 := hBl.cell 5 _ rfl
  clear hBl
  obtain ⟨X1, hX1⟩ : ∃ X : ByteArray, X = ⟨(itoaL n).toArray⟩ := ⟨_, rfl⟩
  have hX1' := Lib.hid hX1; clear hX1
  have htab2 := Lib.hid (htab.out.keep (hw1.out.trans hK.out))
  go_wp2_with fail
  clear c0 c1 c2 c3 c4 c5
  refine (itoa_X n X1 _ hn1 hn2 htab2 hX1').mono ?_
  rintro e w3 ⟨rfl, k3⟩
  have hO := Lib.hid (own_keep hO.out k3); have hK := Lib.hid (hK.out.trans k3)
  clear k3
  go_upto_region 14 with ((with_reducible refine at_slot 54 ?_); refine wpList_append_sep rfl (.tmp 49) (.tmp 53) 65 rfl 9 i0 (.string ⟨#[]⟩) 1 16 Tryz.underlying65 hi hz0 hz1 hz2 rfl (by decide) _ 1 ([verbW 9].map strv) rfl (hO.out.1.alloc _) ⟨w3.heap.size, 0, none⟩ 1 1 [.string X1] rfl rfl (cells_new (by simp) _ _) (by simp [Value.oneCell']) (by unfold maxLen; omega) (by omega) ?_; intro p9 d9 w9 ho1 hg1 hs1; have ho9 := Lib.hid ho1; have hg9 := Lib.hid hg1; have hs9 := Lib.hid hs1; clear ho1 hg1 hs1)
  have hR := OwnStrs.pushes hO.out [itoaL n] (hK.out.alloc _) hg9.out (by have h9 := ho9.out; rw [hX1'.out] at h9; exact h9) hs9.out
  have hO := Lib.hid hR.1; have hK := Lib.hid hR.2
  simp only [List.cons_append, List.nil_append, List.length_cons, List.length_nil, Nat.zero_add, Nat.reduceAdd] at hO
  clear hR ho9 hg9 hs9
  go_wp2_with fail
  go_ret
  exact ⟨_, _, rfl, hO.out.toC, hw1.out.trans hK.out⟩
set_option maxRecDepth 100000 in
set_option maxHeartbeats 4000000 in
theorem words_o (a h n : Int) (nm lf vl : List UInt8) (N L V : ByteArray) (w : World) (ht : Hid (VerbsOk w)) (hN : Hid (N = ⟨nm.toArray⟩)) (hL : Hid (L = ⟨lf.toArray⟩)) (hV : Hid (V = ⟨vl.toArray⟩)) (ha : a ≠ 1 ∧ a ≠ 2 ∧ a ≠ 7 ∧ a ≠ 9) :
    Calls Tryz.prog 55 #[.agg #[.int .i64 a, .int .i64 h, .string N, .string L, .string V, .int .i64 n]] w (WordsOut [verbW a] w) := by
  obtain ⟨i0, hi, hz0, hz1, hz2⟩ := info_parts strInfoAll
  obtain ⟨X0, hX0⟩ : ∃ X : ByteArray, X = ⟨(verbW a).toArray⟩ := ⟨_, rfl⟩
  obtain ⟨W1, hW1⟩ : ∃ W1, W1 = w.alloc (.cells #[.int .i64 a, .int .i64 h, .string N, .string L, .string V, .int .i64 n] 56) := ⟨_, rfl⟩
  obtain ⟨W2, hW2⟩ : ∃ W2, W2 = W1.alloc (.cells #[.string X0] 9) := ⟨_, rfl⟩
  have hB1 : Hid (BlkAt W1 w.heap.size 56 [.int .i64 a, .int .i64 h, .string N, .string L, .string V, .int .i64 n]) := Lib.hid (by rw [hW1]; exact BlkAt.new w 56 [.int .i64 a, .int .i64 h, .string N, .string L, .string V, .int .i64 n])
  have hs1 : W1.heap.size = w.heap.size + 1 := by rw [hW1]; simp
  have hO : Hid (OwnStrs W1 W2 (.slice (some ⟨w.heap.size + 1, 0, none⟩) 1 1) [verbW a]) := Lib.hid (by rw [hW2, ← hs1, hX0]; exact OwnStrs.one W1 (verbW a))
  have hK : Hid (Keeps (fun _ => False) W1 W2) := Lib.hid (by rw [hW2]; exact (Keeps.refl _ _).alloc _)
  have hw1 : Hid (Keeps (fun _ => False) w W1) := Lib.hid (by rw [hW1]; exact (Keeps.refl _ _).alloc _)
  have c0 := (BlkAt.new w 56 [.int .i64 a, .int .i64 h, .string N, .string L, .string V, .int .i64 n]).cell 0 _ rfl
  have ht1 := Lib.hid (ht.out.keep ((Keeps.refl (fun _ => False) w).alloc (.cells #[.int .i64 a, .int .i64 h, .string N, .string L, .string V, .int .i64 n] 56)))
  have hX0' := Lib.hid hX0; have hs1' := Lib.hid hs1
  rw [hW1] at hW2
  have hW2' := Lib.hid hW2
  clear hX0 hs1 hW1 hW2 ht
  have f1 : (a == 1) = false := by rw [beq_eq_false_iff_ne]; omega
  have f2 : (a == 2) = false := by rw [beq_eq_false_iff_ne]; omega
  have f7 : (a == 7) = false := by rw [beq_eq_false_iff_ne]; omega
  have f9 : (a == 9) = false := by rw [beq_eq_false_iff_ne]; omega
  clear ha
  go_enter Tryz.func55, Tryz.ntmps55
  go_wp2_with fail
  refine (verbWord_any a X0 _ ht1 hX0').mono ?_
  rintro e w2 ⟨rfl, rfl⟩
  go_upto_region 2 with fail
  rw [← hW2'.out]
  clear hW2' c0 ht1
  have hBl := hB1.out.keep hK.out id
  have c0 := hBl.cell 0 _ rfl
  have c1 := hBl.cell 1 _ rfl
  have c2 := hBl.cell 2 _ rfl
  have c3 := hBl.cell 3 _ rfl
  have c4 := hBl.cell 4 _ rfl
  have c5 := hBl.cell 5 _ rfl
  clear hBl
  go_wp2_with fail
  go_ret
  exact ⟨_, _, rfl, hO.out.toC, hw1.out.trans hK.out⟩
end Go.Proofs.YtdannodhlaaoiaaGreatDoor
