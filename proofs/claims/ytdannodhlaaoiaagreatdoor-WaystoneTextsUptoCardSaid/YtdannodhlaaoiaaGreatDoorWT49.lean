/- ParseReads, walked. -/
import Derived.Test.YtdannodhlaaoiaaGreatDoorWT27
import Derived.Laws.StructEq
import Derived.Test.YtdannodhlaaoiaaGreatDoorWT48
set_option linter.unusedVariables false
set_option linter.unusedSimpArgs false
namespace Go.Proofs.YtdannodhlaaoiaaGreatDoor
open Go.RowKit

@[go_sem] theorem guardCmd (op : BinOp) (x y : Operand) (xs ys : Array Value) (w : World) : (eqGuard op 56 x y (.agg xs) (.agg ys)).run Tryz.prog w = .ok () w := run_eqGuard_agg w op 56 x y xs ys (by kernel_rfl)
theorem read_none (s : ByteArray) (w : World) (ht : Hid (VerbsOk w)) (hs : s.size ≤ 1000000) (h : Hid (readD s.data.toList = none)) :
    Calls Tryz.prog 19 #[.string s] w fun e w' => e = .returned (.tuple #[.agg #[.int .i64 0, .int .i64 0, .string ⟨#[]⟩, .string ⟨#[]⟩, .string ⟨#[]⟩, .int .i64 0], .int .i64 3]) ∧ Keeps (fun _ => False) w w' :=
  (read_any s w ht hs).mono fun e w' h' => by rw [h.out] at h'; exact h'
theorem ba_of {N : ByteArray} {l : List UInt8} (h : N.data.toList = l) : N = ⟨l.toArray⟩ := by subst h; rfl
end Go.Proofs.YtdannodhlaaoiaaGreatDoor
/- ParseReads' walk. -/
namespace Go.Proofs.YtdannodhlaaoiaaGreatDoor
open Go.RowKit

end Go.Proofs.YtdannodhlaaoiaaGreatDoor
/- Write, walked. -/
namespace Go.Proofs.YtdannodhlaaoiaaGreatDoor
open Go.RowKit

theorem join_any (v : Value) (ws : List (List UInt8)) (T : ByteArray) (w : World) (hne : 0 < ws.length) (hn : ws.length ≤ 1000) (hv : Hid (StrsC w v ws)) (hT : Hid (T = ⟨(Lib.join ws [32]).toArray⟩)) (hl : T.size ≤ 1000000) :
    Calls Tryz.prog 54 #[v, .string ⟨#[32]⟩] w (NewRes (.string T) w) := by
  obtain ⟨p, c, rfl, hc, hr⟩ := hv.out
  obtain ⟨g, o, rfl, hr2⟩ := hr hne
  have hcell : ∀ (j : Nat) x, (ws.map fun l => (⟨l.toArray⟩ : ByteArray))[j]? = some x → w.cell? ⟨g, o + j, none⟩ = some (.string x) := fun j x hx => by
    rw [List.getElem?_map] at hx
    obtain ⟨l, hl, rfl⟩ := Option.map_eq_some_iff.1 hx
    exact hr2 j _ (by rw [List.getElem?_map, hl]; rfl)
  have hm : (ws.map fun l => (⟨l.toArray⟩ : ByteArray)).map (·.data.toList) = ws := by rw [List.map_map]; exact (List.map_congr_left (fun l _ => rfl)).trans (List.map_id _)
  have hg : g < w.heap.size := World.block_lt_of_cell? _ _ (hcell 0 ⟨(ws[0]'hne).toArray⟩ (by rw [List.getElem?_map, List.getElem?_eq_getElem hne]; rfl))
  have h := Tryz.strings_Join g o c (ws.map fun l => (⟨l.toArray⟩ : ByteArray)) ⟨#[32]⟩ w hcell hg (by simp; omega) (by simpa using hc) (by
    rw [hm]
    have : (Lib.join ws [32]).length = T.size := by rw [hT.out]; rfl
    show (Lib.join ws [32]).length ≤ _
    omega)
  rw [List.length_map, hm] at h
  refine h.mono fun e w' ⟨he, hb⟩ => ⟨?_, Below.keeps hb⟩
  rw [he, hT.out]
theorem join_text (x : List UInt8) (r : List (List UInt8)) : Lib.join (x :: r) [32] = x ++ spaced r := by
  rw [Lib.join_cons]; rfl
theorem words_c (c : CmdD) (N L V : ByteArray) (w : World) (ht : Hid (VerbsOk w)) (htab : Hid (TabOk w)) (hN : Hid (N = ⟨c.name.toArray⟩)) (hL : Hid (L = ⟨c.leaf.toArray⟩)) (hV : Hid (V = ⟨c.value.toArray⟩)) (hn1 : -9223372036854775808 ≤ c.n) (hn2 : c.n ≤ 9223372036854775807) :
    Calls Tryz.prog 55 #[.agg #[.int .i64 c.what, .int .i64 c.head, .string N, .string L, .string V, .int .i64 c.n]] w (WordsOut (verbW c.what :: restC c) w) := by
  obtain ⟨a, h, nm, lf, vl, n⟩ := c
  simp only at hN hL hV hn1 hn2 ⊢
  unfold restC
  by_cases h1 : a = 1
  · subst h1
    simp only [true_or, if_true]
    by_cases hh : h = 0
    · subst hh
      by_cases hlf : lf = []
      · simpa [hlf] using words_1te n nm lf vl N L V w ht hN hL hV hlf
      · simpa [hlf] using words_1tl n nm lf vl N L V w ht hN hL hV hlf
    · by_cases hlf : lf = []
      · simpa [hh, hlf] using words_1he h n nm lf vl N L V w ht hN hL hV hh hlf
      · simpa [hh, hlf] using words_1hl h n nm lf vl N L V w ht hN hL hV hh hlf
  by_cases h2 : a = 2
  · subst h2
    by_cases hh : h = 0
    · subst hh
      by_cases hlf : lf = []
      · simpa [hlf] using words_2te n nm lf vl N L V w ht hN hL hV hlf
      · simpa [hlf] using words_2tl n nm lf vl N L V w ht hN hL hV hlf
    · by_cases hlf : lf = []
      · simpa [hh, hlf] using words_2he h n nm lf vl N L V w ht hN hL hV hh hlf
      · simpa [hh, hlf] using words_2hl h n nm lf vl N L V w ht hN hL hV hh hlf
  by_cases h7 : a = 7
  · subst h7
    simpa using words_7 h n nm lf vl N L V w ht hN hL hV hn1 hn2 htab
  by_cases h9 : a = 9
  · subst h9
    simpa using words_9 h n nm lf vl N L V w ht hN hL hV hn1 hn2 htab
  simpa [h1, h2, h7, h9] using words_o a h n nm lf vl N L V w ht hN hL hV ⟨h1, h2, h7, h9⟩
set_option maxRecDepth 100000 in
set_option maxHeartbeats 4000000 in
set_option maxRecDepth 100000 in
set_option maxHeartbeats 4000000 in
/-- what Write answers -/
theorem pWrite_any (c : CmdD) (N L V T : ByteArray) (w : World) (ht : Hid (VerbsOk w)) (htab : Hid (TabOk w)) (hN : Hid (N = ⟨c.name.toArray⟩)) (hL : Hid (L = ⟨c.leaf.toArray⟩)) (hV : Hid (V = ⟨c.value.toArray⟩)) (hn1 : -9223372036854775808 ≤ c.n) (hn2 : c.n ≤ 9223372036854775807)
    (hT : Hid (T = ⟨(textC c).toArray⟩)) (hTs : T.size ≤ 1000000) (r : Bool) (hr : Hid ((r = true) ↔ readD (textC c) = some c)) :
    Calls Tryz.prog 18 #[.agg #[.int .i64 c.what, .int .i64 c.head, .string N, .string L, .string V, .int .i64 c.n]] w (NewRes (.tuple (if r = true then #[.string T, .int .i64 0] else #[.string ⟨#[]⟩, .int .i64 1])) w) := by
  obtain ⟨a, ha⟩ : ∃ a, a = c.what := ⟨_, rfl⟩
  obtain ⟨h, hh⟩ : ∃ h, h = c.head := ⟨_, rfl⟩
  obtain ⟨n, hn⟩ : ∃ n, n = c.n := ⟨_, rfl⟩
  rw [← ha, ← hh, ← hn]
  have ha' := Lib.hid ha; have hh' := Lib.hid hh; have hn' := Lib.hid hn
  have hB := Lib.hid (BlkAt.new w 56 [.int .i64 a, .int .i64 h, .string N, .string L, .string V, .int .i64 n])
  have hK : Hid (Keeps (fun _ => False) w (w.alloc (.cells #[.int .i64 a, .int .i64 h, .string N, .string L, .string V, .int .i64 n] 56))) := Lib.hid ((Keeps.refl _ _).alloc _)
  have ht1 := Lib.hid (ht.out.keep hK.out); have htab1 := Lib.hid (htab.out.keep hK.out)
  have hw := words_c c N L V (w.alloc (.cells #[.int .i64 a, .int .i64 h, .string N, .string L, .string V, .int .i64 n] 56)) ht1 htab1 hN hL hV hn1 hn2
  rw [← ha, ← hh, ← hn] at hw
  have hw' := Lib.hid hw
  have hTj : Hid (T = ⟨(Lib.join (verbW a :: restC c) [32]).toArray⟩) := Lib.hid (by rw [join_text, hT.out, ha]; rfl)
  have hTl : T.data.toList = textC c := by rw [hT.out]
  have hrl : (restC c).length ≤ 4 := by
    unfold restC
    split
    · simp only [List.length_append]
      have e1 : (if c.head ≠ 0 then [headW c.head, c.name] else []).length ≤ 2 := by split <;> simp
      have e2 : (if c.leaf ≠ [] then [c.leaf] else []).length ≤ 1 := by split <;> simp
      have e3 : (if c.what = 1 then [c.value] else []).length ≤ 1 := by split <;> simp
      omega
    · split <;> simp
  have hrl' := Lib.hid hrl
  have hTl' := Lib.hid hTl
  clear ha hh hn hw ht htab hrl hTl hn1 hn2
  cases hR : readD T.data.toList with
  | none =>
    obtain rfl : r = false := Bool.eq_false_iff.2 fun e => by have hx := hr.out.1 e; rw [← hTl'.out, hR] at hx; cases hx
    have hR' := Lib.hid hR; clear hR
    go_enter Tryz.func18, Tryz.ntmps18
    go_wp2_with ((with_reducible refine at_slot 7 ?_); refine wpList_load_mid rfl 56 (.tmp 1) rfl w.heap.size 0 rfl [.int .i64 a, .int .i64 h, .string N, .string L, .string V, .int .i64 n] _ hB.out.range Tryz.underlying56 rfl cmdInfo ?_)
    refine hw'.out.mono ?_
    rintro e w1 ⟨p1, c1, rfl, hs1, k1⟩
    have hs1' := Lib.hid hs1; have hB1 := Lib.hid (hB.out.keep k1 id); have hK1 := Lib.hid (hK.out.trans k1); have ht2 := Lib.hid (ht1.out.keep k1)
    clear hs1 k1 hB hK ht1 htab1 hw'
    go_wp2_with fail
    refine (join_any _ _ T _ (by simp) (by have := hrl'.out; simp only [List.length_cons]; omega) hs1' hTj hTs).mono ?_
    rintro e w2 ⟨rfl, k2⟩
    have hB2 := Lib.hid (hB1.out.keep k2 id); have hK2 := Lib.hid (hK1.out.trans k2); have ht3 := Lib.hid (ht2.out.keep k2)
    clear k2 hB1 hK1 ht2
    go_wp2_with fail
    refine (read_none T _ ht3 hTs hR').mono ?_
    rintro e w3 ⟨rfl, k3⟩
    have hK3 := Lib.hid (hK2.out.trans k3); clear k3
    go_wp2_with ((with_reducible refine at_store 5 ?_); refine wpList_store_new rfl 56 (.tmp 5) (.tmp 13) rfl _ #[.int .i64 0, .int .i64 0, .string ⟨#[]⟩, .string ⟨#[]⟩, .string ⟨#[]⟩, .int .i64 0] rfl rfl cmdInfo rfl (cmd_one _ _ _ _ _ _) ?_)
    go_ret2
    exact ⟨rfl, hK3.out.alloc _⟩
  | some d =>
    have hR' := Lib.hid hR; clear hR
    obtain ⟨N2, hN2⟩ : ∃ N2 : ByteArray, N2 = ⟨d.name.toArray⟩ := ⟨_, rfl⟩
    obtain ⟨L2, hL2⟩ : ∃ L2 : ByteArray, L2 = ⟨d.leaf.toArray⟩ := ⟨_, rfl⟩
    obtain ⟨V2, hV2⟩ : ∃ V2 : ByteArray, V2 = ⟨d.value.toArray⟩ := ⟨_, rfl⟩
    have hN2' := Lib.hid hN2; have hL2' := Lib.hid hL2; have hV2' := Lib.hid hV2
    clear hN2 hL2 hV2
    by_cases q0 : d.what = c.what
    rotate_left
    · skip
      as_aux_lemma =>
      obtain rfl : r = false := Bool.eq_false_iff.2 fun e => by have hx := hr.out.1 e; rw [← hTl'.out, hR'.out] at hx; injection hx with hx; exact q0 (by rw [hx])
      have b0 : (d.what == a) = false := by rw [ha'.out]; simpa using q0
      clear q0
      go_enter Tryz.func18, Tryz.ntmps18
      go_wp2_with ((with_reducible refine at_slot 7 ?_); refine wpList_load_mid rfl 56 (.tmp 1) rfl w.heap.size 0 rfl [.int .i64 a, .int .i64 h, .string N, .string L, .string V, .int .i64 n] _ hB.out.range Tryz.underlying56 rfl cmdInfo ?_)
      refine hw'.out.mono ?_
      rintro e w1 ⟨p1, c1, rfl, hs1, k1⟩
      have hs1' := Lib.hid hs1; have hB1 := Lib.hid (hB.out.keep k1 id); have hK1 := Lib.hid (hK.out.trans k1); have ht2 := Lib.hid (ht1.out.keep k1)
      clear hs1 k1 hB hK ht1 htab1 hw'
      go_wp2_with fail
      refine (join_any _ _ T _ (by simp) (by have := hrl'.out; simp only [List.length_cons]; omega) hs1' hTj hTs).mono ?_
      rintro e w2 ⟨rfl, k2⟩
      have hB2 := Lib.hid (hB1.out.keep k2 id); have hK2 := Lib.hid (hK1.out.trans k2); have ht3 := Lib.hid (ht2.out.keep k2)
      clear k2 hB1 hK1 ht2
      go_wp2_with fail
      refine (read_some T d N2 L2 V2 _ ht3 hTs hR' hN2' hL2' hV2').mono ?_
      rintro e w3 ⟨rfl, k3⟩
      have hB3 := Lib.hid ((hB2.out.keep k3 id).alloc (.cells #[.int .i64 d.what, .int .i64 d.head, .string N2, .string L2, .string V2, .int .i64 d.n] 56)); have hK3 := Lib.hid (hK2.out.trans k3); clear k3
      go_wp2_with (first | ((with_reducible refine at_store 5 ?_); refine wpList_store_new rfl 56 (.tmp 5) (.tmp 13) rfl _ #[.int .i64 d.what, .int .i64 d.head, .string N2, .string L2, .string V2, .int .i64 d.n] rfl rfl cmdInfo rfl (cmd_one _ _ _ _ _ _) ?_) | ((with_reducible refine at_slot 18 ?_); refine wpList_load_mid_gd (by rfl) 56 (.tmp 5) rfl w3.heap.size 0 rfl [.int .i64 d.what, .int .i64 d.head, .string N2, .string L2, .string V2, .int .i64 d.n] _ (new_rangeb _ _ _) Tryz.underlying56 rfl cmdInfo ?_) | ((with_reducible refine at_slot 19 ?_); refine wpList_load_mid_gd (by rfl) 56 (.tmp 1) rfl w.heap.size 0 rfl [.int .i64 a, .int .i64 h, .string N, .string L, .string V, .int .i64 n] _ hB3.out.range Tryz.underlying56 rfl cmdInfo ?_))
      go_ret2
      exact ⟨rfl, hK3.out.alloc _⟩
    by_cases q1 : d.head = c.head
    rotate_left
    · skip
      as_aux_lemma =>
      obtain rfl : r = false := Bool.eq_false_iff.2 fun e => by have hx := hr.out.1 e; rw [← hTl'.out, hR'.out] at hx; injection hx with hx; exact q1 (by rw [hx])
      have b0 : (d.what == a) = true := by rw [ha'.out, q0]; simp
      have b1 : (d.head == h) = false := by rw [hh'.out]; simpa using q1
      clear q0 q1
      go_enter Tryz.func18, Tryz.ntmps18
      go_wp2_with ((with_reducible refine at_slot 7 ?_); refine wpList_load_mid rfl 56 (.tmp 1) rfl w.heap.size 0 rfl [.int .i64 a, .int .i64 h, .string N, .string L, .string V, .int .i64 n] _ hB.out.range Tryz.underlying56 rfl cmdInfo ?_)
      refine hw'.out.mono ?_
      rintro e w1 ⟨p1, c1, rfl, hs1, k1⟩
      have hs1' := Lib.hid hs1; have hB1 := Lib.hid (hB.out.keep k1 id); have hK1 := Lib.hid (hK.out.trans k1); have ht2 := Lib.hid (ht1.out.keep k1)
      clear hs1 k1 hB hK ht1 htab1 hw'
      go_wp2_with fail
      refine (join_any _ _ T _ (by simp) (by have := hrl'.out; simp only [List.length_cons]; omega) hs1' hTj hTs).mono ?_
      rintro e w2 ⟨rfl, k2⟩
      have hB2 := Lib.hid (hB1.out.keep k2 id); have hK2 := Lib.hid (hK1.out.trans k2); have ht3 := Lib.hid (ht2.out.keep k2)
      clear k2 hB1 hK1 ht2
      go_wp2_with fail
      refine (read_some T d N2 L2 V2 _ ht3 hTs hR' hN2' hL2' hV2').mono ?_
      rintro e w3 ⟨rfl, k3⟩
      have hB3 := Lib.hid ((hB2.out.keep k3 id).alloc (.cells #[.int .i64 d.what, .int .i64 d.head, .string N2, .string L2, .string V2, .int .i64 d.n] 56)); have hK3 := Lib.hid (hK2.out.trans k3); clear k3
      go_wp2_with (first | ((with_reducible refine at_store 5 ?_); refine wpList_store_new rfl 56 (.tmp 5) (.tmp 13) rfl _ #[.int .i64 d.what, .int .i64 d.head, .string N2, .string L2, .string V2, .int .i64 d.n] rfl rfl cmdInfo rfl (cmd_one _ _ _ _ _ _) ?_) | ((with_reducible refine at_slot 18 ?_); refine wpList_load_mid_gd (by rfl) 56 (.tmp 5) rfl w3.heap.size 0 rfl [.int .i64 d.what, .int .i64 d.head, .string N2, .string L2, .string V2, .int .i64 d.n] _ (new_rangeb _ _ _) Tryz.underlying56 rfl cmdInfo ?_) | ((with_reducible refine at_slot 19 ?_); refine wpList_load_mid_gd (by rfl) 56 (.tmp 1) rfl w.heap.size 0 rfl [.int .i64 a, .int .i64 h, .string N, .string L, .string V, .int .i64 n] _ hB3.out.range Tryz.underlying56 rfl cmdInfo ?_))
      go_ret2
      exact ⟨rfl, hK3.out.alloc _⟩
    by_cases q2 : d.name = c.name
    rotate_left
    · skip
      as_aux_lemma =>
      obtain rfl : r = false := Bool.eq_false_iff.2 fun e => by have hx := hr.out.1 e; rw [← hTl'.out, hR'.out] at hx; injection hx with hx; exact q2 (by rw [hx])
      have b0 : (d.what == a) = true := by rw [ha'.out, q0]; simp
      have b1 : (d.head == h) = true := by rw [hh'.out, q1]; simp
      have b2 : (N2.toList == N.toList) = false := by rw [Lib.toList_data, Lib.toList_data, hN2'.out, hN.out]; simpa using q2
      clear q0 q1 q2
      go_enter Tryz.func18, Tryz.ntmps18
      go_wp2_with ((with_reducible refine at_slot 7 ?_); refine wpList_load_mid rfl 56 (.tmp 1) rfl w.heap.size 0 rfl [.int .i64 a, .int .i64 h, .string N, .string L, .string V, .int .i64 n] _ hB.out.range Tryz.underlying56 rfl cmdInfo ?_)
      refine hw'.out.mono ?_
      rintro e w1 ⟨p1, c1, rfl, hs1, k1⟩
      have hs1' := Lib.hid hs1; have hB1 := Lib.hid (hB.out.keep k1 id); have hK1 := Lib.hid (hK.out.trans k1); have ht2 := Lib.hid (ht1.out.keep k1)
      clear hs1 k1 hB hK ht1 htab1 hw'
      go_wp2_with fail
      refine (join_any _ _ T _ (by simp) (by have := hrl'.out; simp only [List.length_cons]; omega) hs1' hTj hTs).mono ?_
      rintro e w2 ⟨rfl, k2⟩
      have hB2 := Lib.hid (hB1.out.keep k2 id); have hK2 := Lib.hid (hK1.out.trans k2); have ht3 := Lib.hid (ht2.out.keep k2)
      clear k2 hB1 hK1 ht2
      go_wp2_with fail
      refine (read_some T d N2 L2 V2 _ ht3 hTs hR' hN2' hL2' hV2').mono ?_
      rintro e w3 ⟨rfl, k3⟩
      have hB3 := Lib.hid ((hB2.out.keep k3 id).alloc (.cells #[.int .i64 d.what, .int .i64 d.head, .string N2, .string L2, .string V2, .int .i64 d.n] 56)); have hK3 := Lib.hid (hK2.out.trans k3); clear k3
      go_wp2_with (first | ((with_reducible refine at_store 5 ?_); refine wpList_store_new rfl 56 (.tmp 5) (.tmp 13) rfl _ #[.int .i64 d.what, .int .i64 d.head, .string N2, .string L2, .string V2, .int .i64 d.n] rfl rfl cmdInfo rfl (cmd_one _ _ _ _ _ _) ?_) | ((with_reducible refine at_slot 18 ?_); refine wpList_load_mid_gd (by rfl) 56 (.tmp 5) rfl w3.heap.size 0 rfl [.int .i64 d.what, .int .i64 d.head, .string N2, .string L2, .string V2, .int .i64 d.n] _ (new_rangeb _ _ _) Tryz.underlying56 rfl cmdInfo ?_) | ((with_reducible refine at_slot 19 ?_); refine wpList_load_mid_gd (by rfl) 56 (.tmp 1) rfl w.heap.size 0 rfl [.int .i64 a, .int .i64 h, .string N, .string L, .string V, .int .i64 n] _ hB3.out.range Tryz.underlying56 rfl cmdInfo ?_))
      go_ret2
      exact ⟨rfl, hK3.out.alloc _⟩
    by_cases q3 : d.leaf = c.leaf
    rotate_left
    · skip
      as_aux_lemma =>
      obtain rfl : r = false := Bool.eq_false_iff.2 fun e => by have hx := hr.out.1 e; rw [← hTl'.out, hR'.out] at hx; injection hx with hx; exact q3 (by rw [hx])
      have b0 : (d.what == a) = true := by rw [ha'.out, q0]; simp
      have b1 : (d.head == h) = true := by rw [hh'.out, q1]; simp
      have b2 : (N2.toList == N.toList) = true := by rw [Lib.toList_data, Lib.toList_data, hN2'.out, hN.out, q2]; simp
      have b3 : (L2.toList == L.toList) = false := by rw [Lib.toList_data, Lib.toList_data, hL2'.out, hL.out]; simpa using q3
      clear q0 q1 q2 q3
      go_enter Tryz.func18, Tryz.ntmps18
      go_wp2_with ((with_reducible refine at_slot 7 ?_); refine wpList_load_mid rfl 56 (.tmp 1) rfl w.heap.size 0 rfl [.int .i64 a, .int .i64 h, .string N, .string L, .string V, .int .i64 n] _ hB.out.range Tryz.underlying56 rfl cmdInfo ?_)
      refine hw'.out.mono ?_
      rintro e w1 ⟨p1, c1, rfl, hs1, k1⟩
      have hs1' := Lib.hid hs1; have hB1 := Lib.hid (hB.out.keep k1 id); have hK1 := Lib.hid (hK.out.trans k1); have ht2 := Lib.hid (ht1.out.keep k1)
      clear hs1 k1 hB hK ht1 htab1 hw'
      go_wp2_with fail
      refine (join_any _ _ T _ (by simp) (by have := hrl'.out; simp only [List.length_cons]; omega) hs1' hTj hTs).mono ?_
      rintro e w2 ⟨rfl, k2⟩
      have hB2 := Lib.hid (hB1.out.keep k2 id); have hK2 := Lib.hid (hK1.out.trans k2); have ht3 := Lib.hid (ht2.out.keep k2)
      clear k2 hB1 hK1 ht2
      go_wp2_with fail
      refine (read_some T d N2 L2 V2 _ ht3 hTs hR' hN2' hL2' hV2').mono ?_
      rintro e w3 ⟨rfl, k3⟩
      have hB3 := Lib.hid ((hB2.out.keep k3 id).alloc (.cells #[.int .i64 d.what, .int .i64 d.head, .string N2, .string L2, .string V2, .int .i64 d.n] 56)); have hK3 := Lib.hid (hK2.out.trans k3); clear k3
      go_wp2_with (first | ((with_reducible refine at_store 5 ?_); refine wpList_store_new rfl 56 (.tmp 5) (.tmp 13) rfl _ #[.int .i64 d.what, .int .i64 d.head, .string N2, .string L2, .string V2, .int .i64 d.n] rfl rfl cmdInfo rfl (cmd_one _ _ _ _ _ _) ?_) | ((with_reducible refine at_slot 18 ?_); refine wpList_load_mid_gd (by rfl) 56 (.tmp 5) rfl w3.heap.size 0 rfl [.int .i64 d.what, .int .i64 d.head, .string N2, .string L2, .string V2, .int .i64 d.n] _ (new_rangeb _ _ _) Tryz.underlying56 rfl cmdInfo ?_) | ((with_reducible refine at_slot 19 ?_); refine wpList_load_mid_gd (by rfl) 56 (.tmp 1) rfl w.heap.size 0 rfl [.int .i64 a, .int .i64 h, .string N, .string L, .string V, .int .i64 n] _ hB3.out.range Tryz.underlying56 rfl cmdInfo ?_))
      go_ret2
      exact ⟨rfl, hK3.out.alloc _⟩
    by_cases q4 : d.value = c.value
    rotate_left
    · skip
      as_aux_lemma =>
      obtain rfl : r = false := Bool.eq_false_iff.2 fun e => by have hx := hr.out.1 e; rw [← hTl'.out, hR'.out] at hx; injection hx with hx; exact q4 (by rw [hx])
      have b0 : (d.what == a) = true := by rw [ha'.out, q0]; simp
      have b1 : (d.head == h) = true := by rw [hh'.out, q1]; simp
      have b2 : (N2.toList == N.toList) = true := by rw [Lib.toList_data, Lib.toList_data, hN2'.out, hN.out, q2]; simp
      have b3 : (L2.toList == L.toList) = true := by rw [Lib.toList_data, Lib.toList_data, hL2'.out, hL.out, q3]; simp
      have b4 : (V2.toList == V.toList) = false := by rw [Lib.toList_data, Lib.toList_data, hV2'.out, hV.out]; simpa using q4
      clear q0 q1 q2 q3 q4
      go_enter Tryz.func18, Tryz.ntmps18
      go_wp2_with ((with_reducible refine at_slot 7 ?_); refine wpList_load_mid rfl 56 (.tmp 1) rfl w.heap.size 0 rfl [.int .i64 a, .int .i64 h, .string N, .string L, .string V, .int .i64 n] _ hB.out.range Tryz.underlying56 rfl cmdInfo ?_)
      refine hw'.out.mono ?_
      rintro e w1 ⟨p1, c1, rfl, hs1, k1⟩
      have hs1' := Lib.hid hs1; have hB1 := Lib.hid (hB.out.keep k1 id); have hK1 := Lib.hid (hK.out.trans k1); have ht2 := Lib.hid (ht1.out.keep k1)
      clear hs1 k1 hB hK ht1 htab1 hw'
      go_wp2_with fail
      refine (join_any _ _ T _ (by simp) (by have := hrl'.out; simp only [List.length_cons]; omega) hs1' hTj hTs).mono ?_
      rintro e w2 ⟨rfl, k2⟩
      have hB2 := Lib.hid (hB1.out.keep k2 id); have hK2 := Lib.hid (hK1.out.trans k2); have ht3 := Lib.hid (ht2.out.keep k2)
      clear k2 hB1 hK1 ht2
      go_wp2_with fail
      refine (read_some T d N2 L2 V2 _ ht3 hTs hR' hN2' hL2' hV2').mono ?_
      rintro e w3 ⟨rfl, k3⟩
      have hB3 := Lib.hid ((hB2.out.keep k3 id).alloc (.cells #[.int .i64 d.what, .int .i64 d.head, .string N2, .string L2, .string V2, .int .i64 d.n] 56)); have hK3 := Lib.hid (hK2.out.trans k3); clear k3
      go_wp2_with (first | ((with_reducible refine at_store 5 ?_); refine wpList_store_new rfl 56 (.tmp 5) (.tmp 13) rfl _ #[.int .i64 d.what, .int .i64 d.head, .string N2, .string L2, .string V2, .int .i64 d.n] rfl rfl cmdInfo rfl (cmd_one _ _ _ _ _ _) ?_) | ((with_reducible refine at_slot 18 ?_); refine wpList_load_mid_gd (by rfl) 56 (.tmp 5) rfl w3.heap.size 0 rfl [.int .i64 d.what, .int .i64 d.head, .string N2, .string L2, .string V2, .int .i64 d.n] _ (new_rangeb _ _ _) Tryz.underlying56 rfl cmdInfo ?_) | ((with_reducible refine at_slot 19 ?_); refine wpList_load_mid_gd (by rfl) 56 (.tmp 1) rfl w.heap.size 0 rfl [.int .i64 a, .int .i64 h, .string N, .string L, .string V, .int .i64 n] _ hB3.out.range Tryz.underlying56 rfl cmdInfo ?_))
      go_ret2
      exact ⟨rfl, hK3.out.alloc _⟩
    by_cases q5 : d.n = c.n
    rotate_left
    · skip
      as_aux_lemma =>
      obtain rfl : r = false := Bool.eq_false_iff.2 fun e => by have hx := hr.out.1 e; rw [← hTl'.out, hR'.out] at hx; injection hx with hx; exact q5 (by rw [hx])
      have b0 : (d.what == a) = true := by rw [ha'.out, q0]; simp
      have b1 : (d.head == h) = true := by rw [hh'.out, q1]; simp
      have b2 : (N2.toList == N.toList) = true := by rw [Lib.toList_data, Lib.toList_data, hN2'.out, hN.out, q2]; simp
      have b3 : (L2.toList == L.toList) = true := by rw [Lib.toList_data, Lib.toList_data, hL2'.out, hL.out, q3]; simp
      have b4 : (V2.toList == V.toList) = true := by rw [Lib.toList_data, Lib.toList_data, hV2'.out, hV.out, q4]; simp
      have b5 : (d.n == n) = false := by rw [hn'.out]; simpa using q5
      clear q0 q1 q2 q3 q4 q5
      go_enter Tryz.func18, Tryz.ntmps18
      go_wp2_with ((with_reducible refine at_slot 7 ?_); refine wpList_load_mid rfl 56 (.tmp 1) rfl w.heap.size 0 rfl [.int .i64 a, .int .i64 h, .string N, .string L, .string V, .int .i64 n] _ hB.out.range Tryz.underlying56 rfl cmdInfo ?_)
      refine hw'.out.mono ?_
      rintro e w1 ⟨p1, c1, rfl, hs1, k1⟩
      have hs1' := Lib.hid hs1; have hB1 := Lib.hid (hB.out.keep k1 id); have hK1 := Lib.hid (hK.out.trans k1); have ht2 := Lib.hid (ht1.out.keep k1)
      clear hs1 k1 hB hK ht1 htab1 hw'
      go_wp2_with fail
      refine (join_any _ _ T _ (by simp) (by have := hrl'.out; simp only [List.length_cons]; omega) hs1' hTj hTs).mono ?_
      rintro e w2 ⟨rfl, k2⟩
      have hB2 := Lib.hid (hB1.out.keep k2 id); have hK2 := Lib.hid (hK1.out.trans k2); have ht3 := Lib.hid (ht2.out.keep k2)
      clear k2 hB1 hK1 ht2
      go_wp2_with fail
      refine (read_some T d N2 L2 V2 _ ht3 hTs hR' hN2' hL2' hV2').mono ?_
      rintro e w3 ⟨rfl, k3⟩
      have hB3 := Lib.hid ((hB2.out.keep k3 id).alloc (.cells #[.int .i64 d.what, .int .i64 d.head, .string N2, .string L2, .string V2, .int .i64 d.n] 56)); have hK3 := Lib.hid (hK2.out.trans k3); clear k3
      go_wp2_with (first | ((with_reducible refine at_store 5 ?_); refine wpList_store_new rfl 56 (.tmp 5) (.tmp 13) rfl _ #[.int .i64 d.what, .int .i64 d.head, .string N2, .string L2, .string V2, .int .i64 d.n] rfl rfl cmdInfo rfl (cmd_one _ _ _ _ _ _) ?_) | ((with_reducible refine at_slot 18 ?_); refine wpList_load_mid_gd (by rfl) 56 (.tmp 5) rfl w3.heap.size 0 rfl [.int .i64 d.what, .int .i64 d.head, .string N2, .string L2, .string V2, .int .i64 d.n] _ (new_rangeb _ _ _) Tryz.underlying56 rfl cmdInfo ?_) | ((with_reducible refine at_slot 19 ?_); refine wpList_load_mid_gd (by rfl) 56 (.tmp 1) rfl w.heap.size 0 rfl [.int .i64 a, .int .i64 h, .string N, .string L, .string V, .int .i64 n] _ hB3.out.range Tryz.underlying56 rfl cmdInfo ?_))
      go_ret2
      exact ⟨rfl, hK3.out.alloc _⟩
    have hdc : d = c := by cases d; cases c; simp_all
    obtain rfl : r = true := hr.out.2 (by rw [← hTl'.out, hR'.out, hdc])
    have b0 : (d.what == a) = true := by rw [ha'.out, q0]; simp
    have b1 : (d.head == h) = true := by rw [hh'.out, q1]; simp
    have b2 : (N2.toList == N.toList) = true := by rw [Lib.toList_data, Lib.toList_data, hN2'.out, hN.out, q2]; simp
    have b3 : (L2.toList == L.toList) = true := by rw [Lib.toList_data, Lib.toList_data, hL2'.out, hL.out, q3]; simp
    have b4 : (V2.toList == V.toList) = true := by rw [Lib.toList_data, Lib.toList_data, hV2'.out, hV.out, q4]; simp
    have b5 : (d.n == n) = true := by rw [hn'.out, q5]; simp
    clear hdc q0 q1 q2 q3 q4 q5
    go_enter Tryz.func18, Tryz.ntmps18
    go_wp2_with ((with_reducible refine at_slot 7 ?_); refine wpList_load_mid rfl 56 (.tmp 1) rfl w.heap.size 0 rfl [.int .i64 a, .int .i64 h, .string N, .string L, .string V, .int .i64 n] _ hB.out.range Tryz.underlying56 rfl cmdInfo ?_)
    refine hw'.out.mono ?_
    rintro e w1 ⟨p1, c1, rfl, hs1, k1⟩
    have hs1' := Lib.hid hs1; have hB1 := Lib.hid (hB.out.keep k1 id); have hK1 := Lib.hid (hK.out.trans k1); have ht2 := Lib.hid (ht1.out.keep k1)
    clear hs1 k1 hB hK ht1 htab1 hw'
    go_wp2_with fail
    refine (join_any _ _ T _ (by simp) (by have := hrl'.out; simp only [List.length_cons]; omega) hs1' hTj hTs).mono ?_
    rintro e w2 ⟨rfl, k2⟩
    have hB2 := Lib.hid (hB1.out.keep k2 id); have hK2 := Lib.hid (hK1.out.trans k2); have ht3 := Lib.hid (ht2.out.keep k2)
    clear k2 hB1 hK1 ht2
    go_wp2_with fail
    refine (read_some T d N2 L2 V2 _ ht3 hTs hR' hN2' hL2' hV2').mono ?_
    rintro e w3 ⟨rfl, k3⟩
    have hB3 := Lib.hid ((hB2.out.keep k3 id).alloc (.cells #[.int .i64 d.what, .int .i64 d.head, .string N2, .string L2, .string V2, .int .i64 d.n] 56)); have hK3 := Lib.hid (hK2.out.trans k3); clear k3
    go_wp2_with (first | ((with_reducible refine at_store 5 ?_); refine wpList_store_new rfl 56 (.tmp 5) (.tmp 13) rfl _ #[.int .i64 d.what, .int .i64 d.head, .string N2, .string L2, .string V2, .int .i64 d.n] rfl rfl cmdInfo rfl (cmd_one _ _ _ _ _ _) ?_) | ((with_reducible refine at_slot 18 ?_); refine wpList_load_mid_gd (by rfl) 56 (.tmp 5) rfl w3.heap.size 0 rfl [.int .i64 d.what, .int .i64 d.head, .string N2, .string L2, .string V2, .int .i64 d.n] _ (new_rangeb _ _ _) Tryz.underlying56 rfl cmdInfo ?_) | ((with_reducible refine at_slot 19 ?_); refine wpList_load_mid_gd (by rfl) 56 (.tmp 1) rfl w.heap.size 0 rfl [.int .i64 a, .int .i64 h, .string N, .string L, .string V, .int .i64 n] _ hB3.out.range Tryz.underlying56 rfl cmdInfo ?_))
    go_ret2
    exact ⟨rfl, hK3.out.alloc _⟩
end Go.Proofs.YtdannodhlaaoiaaGreatDoor
