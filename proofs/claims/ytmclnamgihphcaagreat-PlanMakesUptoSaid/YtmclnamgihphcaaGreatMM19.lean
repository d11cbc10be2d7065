/- plan's small functions: isWhole, isType, ofLeaf. -/
import Derived.Test.YtmclnamgihphcaaGreatMM14
import Derived.Test.YtmclnamgihphcaaGreatMM18
import Derived.BigQuiet
set_option linter.unusedVariables false
set_option linter.unusedSimpArgs false
set_option linter.unusedVariables false
set_option linter.unusedSimpArgs false
namespace Go.Proofs.YtmclnamgihphcaaGreat
open Go.RowKit

theorem ba_eqr (X : ByteArray) (l : List UInt8) : (X.toList == l) = decide (X.data.toList = l) := by
  rw [Lib.toList_data]
  by_cases h : X.data.toList = l
  · rw [decide_eq_true h, h]; simp
  · rw [decide_eq_false h]; simpa using h
def idW : List UInt8 := [114, 111, 117, 116, 101, 114, 45, 105, 100]
def typW : List UInt8 := [116, 121, 112, 101]
def wholeB (c : ChD) : Bool := decide (c.line.head = 0) && decide (c.line.leaf = idW)
def typeB (c : ChD) : Bool := decide (c.line.head = 1) && decide (c.line.leaf = typW)
theorem changeInfo : (Tryz.prog.info? 94).map (·.size) = some 6 := by kernel_rfl
theorem range_pre {w : World} {g o : Nat} {a b : List Value} (h : w.rangeAt g o (a ++ b)) : w.rangeAt g o a := fun j u hu => h j u (by
  rw [List.getElem?_append_left (List.getElem?_eq_some_iff.1 hu).1]; exact hu)
set_option maxRecDepth 100000 in
set_option maxHeartbeats 2000000 in
theorem plWhole1_r (h : Int) (N F V O W : ByteArray) (z : Bool) (w : World) (hz : Hid ((decide (h = 0) && decide (F.data.toList = idW)) = z)) :
    Calls Tryz.prog 40 #[.agg #[.int .i64 h, .string N, .string F, .string V, .string O, .string W]] w (NewRes (.bool z) w) := by
  obtain ⟨z1, h1⟩ : ∃ z, decide (h = 0) = z := ⟨_, rfl⟩
  obtain ⟨z2, h2⟩ : ∃ z, decide (F.data.toList = idW) = z := ⟨_, rfl⟩
  have hzz := hz.out
  rw [h1, h2] at hzz
  have e1 : (h == 0) = z1 := by rw [← h1]; by_cases e : h = 0 <;> simp [e]
  have e2 := ba_eqr F idW
  rw [h2] at e2
  unfold idW at e2
  have hzz' := Lib.hid hzz
  have hk : Hid (Keeps (fun _ => False) w (w.alloc (.cells #[.int .i64 h, .string N, .string F, .string V, .string O, .string W] 94))) := Lib.hid ((Keeps.refl _ _).alloc _)
  clear h1 h2 hzz hz
  go_enter Tryz.func40, Tryz.ntmps40
  cases z1 with
  | true =>
    go_wp2_with fail
    go_ret
    exact ⟨by rw [← hzz'.out]; simp, hk.out⟩
  | false =>
    go_wp2_with fail
    go_ret
    exact ⟨by rw [← hzz'.out]; rfl, hk.out⟩
set_option maxRecDepth 100000 in
set_option maxHeartbeats 2000000 in
theorem plType_r (h : Int) (N F V : ByteArray) (z : Bool) (w : World) (hz : Hid ((decide (h = 1) && decide (F.data.toList = typW)) = z)) :
    Calls Tryz.prog 61 #[.agg #[.int .i64 h, .string N, .string F, .string V]] w (NewRes (.bool z) w) := by
  obtain ⟨z1, h1⟩ : ∃ z, decide (h = 1) = z := ⟨_, rfl⟩
  obtain ⟨z2, h2⟩ : ∃ z, decide (F.data.toList = typW) = z := ⟨_, rfl⟩
  have hzz := hz.out
  rw [h1, h2] at hzz
  have e1 : (h == 1) = z1 := by rw [← h1]; by_cases e : h = 1 <;> simp [e]
  have e2 := ba_eqr F typW
  rw [h2] at e2
  unfold typW at e2
  have hzz' := Lib.hid hzz
  have hk : Hid (Keeps (fun _ => False) w (w.alloc (.cells #[.int .i64 h, .string N, .string F, .string V] 62))) := Lib.hid ((Keeps.refl _ _).alloc _)
  clear h1 h2 hzz hz
  go_enter Tryz.func61, Tryz.ntmps61
  cases z1 with
  | true =>
    go_wp2_with fail
    go_ret
    exact ⟨by rw [← hzz'.out]; simp, hk.out⟩
  | false =>
    go_wp2_with fail
    go_ret
    exact ⟨by rw [← hzz'.out]; rfl, hk.out⟩
def anyC (cs : List ChD) (k : Nat) : Bool := (cs.drop k).any wholeB
theorem anyC_step (cs : List ChD) (k : Nat) (c : ChD) (h : cs[k]? = some c) : anyC cs k = (wholeB c || anyC cs (k + 1)) := by
  obtain ⟨hk, e⟩ := List.getElem?_eq_some_iff.1 h
  unfold anyC
  rw [List.drop_eq_getElem_cons hk, e, List.any_cons]
theorem anyC_end (cs : List ChD) : anyC cs cs.length = false := by unfold anyC; simp
set_option maxRecDepth 100000 in
set_option maxHeartbeats 2000000 in
theorem slIFCh_any (sl : Value) (cs : List ChD) (hl : cs.length ≤ 1000000000) (z : Bool) (w : World) (h : Hid (RowsAt 6 cVals w sl cs)) (hz : Hid (cs.any wholeB = z)) :
    Calls Tryz.prog 57 #[sl, .func (.func 40) #[] #[]] w (fun e w' => (∃ r : Int, e = .returned (.int .i64 r) ∧ decide (0 ≤ r) = z) ∧ Keeps (fun _ => False) w w') := by
  obtain ⟨p, c, rfl⟩ := h.out.slice
  go_enter Tryz.func57, Tryz.ntmps57
  go_wp2_with fail
  go_loopw [8] (fun iv wr => ∃ k : Nat, k ≤ cs.length ∧ iv = .int .i64 k ∧ Hid (anyC cs k = z) ∧ Hid (Keeps (fun _ => False) w wr)) (fun iv _ => cs.length - (intOf iv).toNat)
  case atStart => exact ⟨0, by omega, rfl, Lib.hid hz.out, Lib.hid (Keeps.refl _ _)⟩
  case round =>
    obtain ⟨k, hk, rfl, hany, hkr⟩ := hrel
    by_cases hlk : k < cs.length
    · obtain ⟨g, o, rfl, hrows⟩ := h.out.open (by omega)
      obtain ⟨l, hll⟩ : ∃ l, cs[k]? = some l := ⟨_, List.getElem?_eq_getElem hlk⟩
      obtain ⟨N, hN⟩ : ∃ N : ByteArray, N = ⟨l.line.name.toArray⟩ := ⟨_, rfl⟩
      obtain ⟨F, hF⟩ : ∃ N : ByteArray, N = ⟨l.line.leaf.toArray⟩ := ⟨_, rfl⟩
      obtain ⟨V, hV⟩ : ∃ N : ByteArray, N = ⟨l.line.value.toArray⟩ := ⟨_, rfl⟩
      obtain ⟨O, hO⟩ : ∃ N : ByteArray, N = ⟨l.old.toArray⟩ := ⟨_, rfl⟩
      obtain ⟨W, hW⟩ : ∃ N : ByteArray, N = ⟨l.new.toArray⟩ := ⟨_, rfl⟩
      have hrow : Hid (wr.rangeAt g (o + k * 6) [.int .i64 l.line.head, .string N, .string F, .string V, .string O, .string W]) := Lib.hid (by rw [hN, hF, hV, hO, hW]; exact hkr.out.rangeAt (hrows k l hll) id)
      have hst := anyC_step cs k l hll
      rw [hany.out] at hst
      obtain ⟨x, hx⟩ : ∃ x, wholeB l = x := ⟨_, rfl⟩
      rw [hx] at hst
      have hx' : Hid ((decide (l.line.head = 0) && decide (F.data.toList = idW)) = x) := Lib.hid (by rw [hF]; exact hx)
      have hst' := Lib.hid hst
      clear hx hst hrows hll hany hN hF hV hO hW
      go_wp2_with ((with_reducible refine at_slot 15 ?_); refine wpList_load_mid rfl 94 (.tmp 14) rfl g (o + k * 6) rfl _ _ hrow.out Tryz.underlying94 rfl changeInfo ?_)
      refine (plWhole1_r _ N F V O W x _ hx').mono ?_
      rintro e w2 ⟨rfl, k2⟩
      have k2' := Lib.hid (hkr.out.trans k2); clear k2
      cases x with
      | true =>
        have hz1 : Hid (z = true) := Lib.hid hst'.out
        clear hst'
        go_wp2_with fail
        go_ret
        exact ⟨⟨_, rfl, by rw [hz1.out]; simp⟩, k2'.out⟩
      | false =>
        have hz1 : Hid (anyC cs (k + 1) = z) := Lib.hid hst'.out.symm
        clear hst'
        go_wp2_with fail
        exact ⟨⟨k + 1, by omega, by go_num, hz1, k2'⟩, by simp [intOf]; omega⟩
    · obtain rfl : k = cs.length := by omega
      have hz1 : Hid (z = false) := Lib.hid (by rw [← hany.out, anyC_end])
      clear hany
      go_wp2_with fail
      go_ret
      exact ⟨⟨_, rfl, by rw [hz1.out]; rfl⟩, hkr.out⟩
theorem slCFCh_any (sl : Value) (cs : List ChD) (hl : cs.length ≤ 1000000000) (z : Bool) (w : World) (h : Hid (RowsAt 6 cVals w sl cs)) (hz : Hid (cs.any wholeB = z)) :
    Calls Tryz.prog 39 #[sl, .func (.func 40) #[] #[]] w (NewRes (.bool z) w) := by
  go_enter Tryz.func39, Tryz.ntmps39
  go_wp2_with fail
  refine (slIFCh_any sl cs hl z _ h hz).mono ?_
  rintro e w2 ⟨⟨r, rfl, hr⟩, k2⟩
  have hr' := Lib.hid hr; have k2' := Lib.hid k2
  clear hr k2
  go_wp2_with fail
  go_ret
  exact ⟨by rw [hr'.out]; rfl, k2'.out⟩
def wholeC (a : List LineD) (cs : List ChD) : Bool := !(namesA 2 a).isEmpty && cs.any wholeB
set_option maxRecDepth 100000 in
set_option maxHeartbeats 2000000 in
theorem plWhole_any (v u : Value) (a : List LineD) (cs : List ChD) (z : Bool) (w : World) (hv : Hid (RowsAt 4 lineVals w v a)) (hr : Hid (rightC a = true)) (hu : Hid (RowsAt 6 cVals w u cs)) (hl : cs.length ≤ 1000000000) (hz : Hid (wholeC a cs = z)) :
    Calls Tryz.prog 16 #[v, u] w (NewRes (.bool z) w) := by
  have hnl := namesA_len 2 a
  have hal := right_len hr.out
  go_enter Tryz.func16, Tryz.ntmps16
  go_wp2_with fail
  refine (names_all _ a 2 _ hv hr).mono ?_
  rintro e w1 ⟨p1, c1, rfl, -, k1⟩
  have hu1 := Lib.hid (hu.out.keep k1)
  have hk1 := Lib.hid k1
  clear k1
  by_cases h0 : (namesA 2 a).length = 0
  · have e0 : (((namesA 2 a).length : Int) == 0) = true := by simp [h0]
    have hz0 : Hid (z = false) := Lib.hid (by
      rw [← hz.out]; unfold wholeC
      rw [List.eq_nil_of_length_eq_zero h0]; rfl)
    clear h0 hz
    go_wp2_with fail
    go_ret
    exact ⟨by rw [hz0.out]; rfl, hk1.out⟩
  · have e0 : (((namesA 2 a).length : Int) == 0) = false := by simpa using h0
    have hz0 : Hid (cs.any wholeB = z) := Lib.hid (by
      rw [← hz.out]; unfold wholeC
      cases hn : namesA 2 a with
      | nil => rw [hn] at h0; exact absurd rfl h0
      | cons => rfl)
    clear h0 hz
    go_wp2_with fail
    refine (slCFCh_any _ cs hl z _ hu1 hz0).mono ?_
    rintro e w2 ⟨rfl, k2⟩
    have hk2 := Lib.hid (hk1.out.trans k2)
    clear k2
    go_wp2_with fail
    go_ret
    exact ⟨rfl, hk2.out⟩
def leafK (l : List UInt8) : Int := match findD 2 l with
  | some r => if r.cl = 5 then 3 else if r.cl = 4 then 4 else if r.cl = 3 then 5 else if r.cl = 2 then 7 else if r.cl = 1 then 8 else 9
  | none => 9
set_option maxRecDepth 100000 in
set_option maxHeartbeats 4000000 in
theorem plLeaf_any (L : ByteArray) (k : Int) (w : World) (hk : Hid (leafK L.data.toList = k)) :
    Calls Tryz.prog 60 #[.string L] w (NewRes (.int .i64 k) w) := by
  go_enter Tryz.func60, Tryz.ntmps60
  go_wp2_with fail
  obtain ⟨f, hf⟩ : ∃ f, findD 2 L.data.toList = f := ⟨_, rfl⟩
  have hkk := hk.out
  unfold leafK at hkk
  rw [hf] at hkk
  refine (find_any 2 L f _ (Lib.hid hf)).mono ?_
  clear hf hk
  cases f with
  | none =>
    rintro e w1 ⟨rfl, k1⟩
    have hk1 := Lib.hid (k1.alloc (.cells zeroRow 139))
    unfold zeroRow at hk1 ⊢
    have hkk' : Hid (k = 9) := Lib.hid hkk.symm
    clear k1 hkk
    go_wp2_with ((with_reducible refine at_store 3 ?_); refine wpList_store_new rfl 139 (.tmp 3) (.tmp 8) rfl _ #[.int .i64 0, .string ⟨#[]⟩, .int .i64 0, .int .i64 0, .int .i64 0, .slice none 0 0, .string ⟨#[]⟩, .int .i64 0] rfl rfl rowInfo rfl (row_one _ _ _ _ _ _ _ _ _ _) ?_)
    go_ret
    exact ⟨by rw [hkk'.out]; rfl, hk1.out⟩
  | some r =>
    rintro e w1 ⟨p, cc, rfl, -, k1⟩
    have hk1 := Lib.hid (k1.alloc (.cells #[.int .i64 r.head, strv r.name, .int .i64 r.kind, .int .i64 r.lo, .int .i64 r.hi, .slice p r.cs.length cc, strv r.df, .int .i64 r.cl] 139))
    unfold strv at hk1 ⊢
    have hkk' := Lib.hid hkk
    clear k1 hkk
    obtain ⟨n5, h5⟩ : ∃ z, decide (r.cl = 5) = z := ⟨_, rfl⟩
    obtain ⟨n4, h4⟩ : ∃ z, decide (r.cl = 4) = z := ⟨_, rfl⟩
    obtain ⟨n3, h3⟩ : ∃ z, decide (r.cl = 3) = z := ⟨_, rfl⟩
    obtain ⟨n2, h2⟩ : ∃ z, decide (r.cl = 2) = z := ⟨_, rfl⟩
    obtain ⟨n1, h1⟩ : ∃ z, decide (r.cl = 1) = z := ⟨_, rfl⟩
    have e5 : (r.cl == 5) = n5 := by rw [← h5]; by_cases e : r.cl = 5 <;> simp [e]
    have e4 : (r.cl == 4) = n4 := by rw [← h4]; by_cases e : r.cl = 4 <;> simp [e]
    have e3 : (r.cl == 3) = n3 := by rw [← h3]; by_cases e : r.cl = 3 <;> simp [e]
    have e2 : (r.cl == 2) = n2 := by rw [← h2]; by_cases e : r.cl = 2 <;> simp [e]
    have e1 : (r.cl == 1) = n1 := by rw [← h1]; by_cases e : r.cl = 1 <;> simp [e]
    have hv : Hid (k = if n5 = true then 3 else if n4 = true then 4 else if n3 = true then 5 else if n2 = true then 7 else if n1 = true then 8 else 9) := Lib.hid (by
      rw [← hkk'.out, ← h5, ← h4, ← h3, ← h2, ← h1]
      simp only [decide_eq_true_eq])
    clear h5 h4 h3 h2 h1 hkk'
    generalize r.cl = cl at e5 e4 e3 e2 e1 hk1 ⊢
    cases n5 with
    | true => (go_wp2_with ((with_reducible refine at_store 3 ?_); refine wpList_store_new rfl 139 (.tmp 3) (.tmp 8) rfl _ #[.int .i64 r.head, .string ⟨r.name.toArray⟩, .int .i64 r.kind, .int .i64 r.lo, .int .i64 r.hi, .slice p r.cs.length cc, .string ⟨r.df.toArray⟩, .int .i64 cl] rfl rfl rowInfo rfl (row_one _ _ _ _ _ _ _ _ _ _) ?_)); go_ret; exact ⟨by rw [hv.out]; rfl, hk1.out⟩
    | false =>
      cases n4 with
      | true => (go_wp2_with ((with_reducible refine at_store 3 ?_); refine wpList_store_new rfl 139 (.tmp 3) (.tmp 8) rfl _ #[.int .i64 r.head, .string ⟨r.name.toArray⟩, .int .i64 r.kind, .int .i64 r.lo, .int .i64 r.hi, .slice p r.cs.length cc, .string ⟨r.df.toArray⟩, .int .i64 cl] rfl rfl rowInfo rfl (row_one _ _ _ _ _ _ _ _ _ _) ?_)); go_ret; exact ⟨by rw [hv.out]; rfl, hk1.out⟩
      | false =>
        cases n3 with
        | true => (go_wp2_with ((with_reducible refine at_store 3 ?_); refine wpList_store_new rfl 139 (.tmp 3) (.tmp 8) rfl _ #[.int .i64 r.head, .string ⟨r.name.toArray⟩, .int .i64 r.kind, .int .i64 r.lo, .int .i64 r.hi, .slice p r.cs.length cc, .string ⟨r.df.toArray⟩, .int .i64 cl] rfl rfl rowInfo rfl (row_one _ _ _ _ _ _ _ _ _ _) ?_)); go_ret; exact ⟨by rw [hv.out]; rfl, hk1.out⟩
        | false =>
          cases n2 with
          | true => (go_wp2_with ((with_reducible refine at_store 3 ?_); refine wpList_store_new rfl 139 (.tmp 3) (.tmp 8) rfl _ #[.int .i64 r.head, .string ⟨r.name.toArray⟩, .int .i64 r.kind, .int .i64 r.lo, .int .i64 r.hi, .slice p r.cs.length cc, .string ⟨r.df.toArray⟩, .int .i64 cl] rfl rfl rowInfo rfl (row_one _ _ _ _ _ _ _ _ _ _) ?_)); go_ret; exact ⟨by rw [hv.out]; rfl, hk1.out⟩
          | false =>
            cases n1 with
            | true => (go_wp2_with ((with_reducible refine at_store 3 ?_); refine wpList_store_new rfl 139 (.tmp 3) (.tmp 8) rfl _ #[.int .i64 r.head, .string ⟨r.name.toArray⟩, .int .i64 r.kind, .int .i64 r.lo, .int .i64 r.hi, .slice p r.cs.length cc, .string ⟨r.df.toArray⟩, .int .i64 cl] rfl rfl rowInfo rfl (row_one _ _ _ _ _ _ _ _ _ _) ?_)); go_ret; exact ⟨by rw [hv.out]; rfl, hk1.out⟩
            | false => (go_wp2_with ((with_reducible refine at_store 3 ?_); refine wpList_store_new rfl 139 (.tmp 3) (.tmp 8) rfl _ #[.int .i64 r.head, .string ⟨r.name.toArray⟩, .int .i64 r.kind, .int .i64 r.lo, .int .i64 r.hi, .slice p r.cs.length cc, .string ⟨r.df.toArray⟩, .int .i64 cl] rfl rfl rowInfo rfl (row_one _ _ _ _ _ _ _ _ _ _) ?_)); go_ret; exact ⟨by rw [hv.out]; rfl, hk1.out⟩
end Go.Proofs.YtmclnamgihphcaaGreat
/- plan.ofFace, ofAreas. -/
set_option linter.unusedVariables false
set_option linter.unusedSimpArgs false
namespace Go.Proofs.YtmclnamgihphcaaGreat
open Go.RowKit

structure ActD where
  kind : Int
  name : List UInt8
def aVals (a : ActD) : List Value := [.int .i64 a.kind, strv a.name]
theorem aVals_len (c : ActD) : (aVals c).length = 2 := rfl
theorem aVals_one (c : ActD) : ∀ u ∈ aVals c, u.oneCell' = true := by
  intro u hu
  simp only [aVals, List.mem_cons, List.not_mem_nil, or_false] at hu
  rcases hu with rfl | rfl <;> first | rfl | exact strv_one _
theorem actAll : ∃ i, Tryz.prog.info? 53 = some i ∧ i.zero = some (.agg #[.int .i64 0, .string ⟨#[]⟩]) ∧ i.size = 2 ∧ i.bytes = 24 := by
  have h : (Tryz.prog.info? 53).map (fun i => (i.zero, i.size, i.bytes)) = some (some (.agg #[.int .i64 0, .string ⟨#[]⟩]), 2, 24) := by kernel_rfl
  obtain ⟨i, hi, e⟩ := Option.map_eq_some_iff.1 h
  injection e with e1 e; injection e with e2 e3
  exact ⟨i, hi, e1, e2, e3⟩
theorem actInfo : (Tryz.prog.info? 53).map (·.size) = some 2 := by kernel_rfl
theorem change_one (a : Int) (n f v o u : ByteArray) : (#[.int .i64 a, .string n, .string f, .string v, .string o, .string u] : Array Value).all (·.oneCell') = true := by simp; exact ⟨rfl, rfl, rfl, rfl, rfl, rfl⟩
theorem strs_get {w : World} {p : Option Addr} {n c : Nat} {xs : List (List UInt8)} (h : StrsAt w (.slice p n c) xs) {k : Nat} {x : List UInt8} (hk : xs[k]? = some x) : ∃ g o, p = some ⟨g, o, none⟩ ∧ w.cell? ⟨g, o + k, none⟩ = some (.string ⟨x.toArray⟩) := by
  obtain ⟨p', c', e, hr⟩ := h
  injection e with e1 e2 e3
  subst e1
  obtain ⟨g, o, rfl, hr2⟩ := hr (by have := (List.getElem?_eq_some_iff.1 hk).1; omega)
  refine ⟨g, o, rfl, ?_⟩
  have := hr2 k (strv x) (by rw [List.getElem?_map, hk]; rfl)
  exact this
theorem eq_list (a b : ByteArray) : (a.toList == b.toList) = decide (a.data.toList = b.data.toList) := by
  by_cases e : a.data.toList = b.data.toList
  · rw [beq_list e, decide_eq_true e]
  · rw [bne_list e, decide_eq_false e]
theorem min_if (x y : Int) : min x y = if y < x then y else x := by rw [Int.min_def]; split <;> split <;> omega
theorem alloc_size (w : World) (o : Obj) : (w.alloc o).heap.size = w.heap.size + 1 := Array.size_push ..
def areaW : List UInt8 := [97, 114, 101, 97]
def costW : List UInt8 := [99, 111, 115, 116]
def stepF (n area : List UInt8) (least : Int) (c : ChD) : Int := if c.line.head = 2 ∧ c.line.name = n then min least (leafK c.line.leaf) else if typeB c = true ∧ c.line.name = area then min least 5 else least
def faceK (b : List LineD) (n : List UInt8) (cs : List ChD) : Int := cs.foldl (stepF n (valueR b 2 n areaW)) 10
theorem fold_take {α β : Type} (f : β → α → β) (a : β) {cs : List α} {k : Nat} {c : α} (h : cs[k]? = some c) : (cs.take (k + 1)).foldl f a = f ((cs.take k).foldl f a) c := by
  rw [List.take_add_one, h, List.foldl_append]; rfl
def isCost (c : ChD) : Bool := decide (c.line.head = 1) && decide (c.line.leaf = costW)
def areasC (cs : List ChD) : List ActD := cs.flatMap (fun c => if isCost c = true then [⟨7, c.line.name⟩] else [])
theorem flat_take {α β : Type} (f : α → List β) {cs : List α} {k : Nat} {c : α} (h : cs[k]? = some c) : (cs.take (k + 1)).flatMap f = (cs.take k).flatMap f ++ f c := by
  rw [List.take_add_one, h, List.flatMap_append]; simp
theorem flat_len {α β : Type} {f : α → List β} (h : ∀ x, (f x).length ≤ 1) : ∀ l : List α, (l.flatMap f).length ≤ l.length := by
  intro l
  induction l with
  | nil => simp
  | cons a l ih => rw [List.flatMap_cons, List.length_append, List.length_cons]; have := h a; omega

set_option maxRecDepth 100000 in
set_option maxHeartbeats 16000000 in
theorem plFace_any (v u : Value) (b : List LineD) (cs : List ChD) (Nm : ByteArray) (r : Int) (w : World) (hv : Hid (RowsAt 4 lineVals w v b)) (hr : Hid (rightC b = true)) (hu : Hid (RowsAt 6 cVals w u cs)) (hl : cs.length ≤ 1000000000) (hz : Hid (faceK b Nm.data.toList cs = r)) :
    Calls Tryz.prog 42 #[v, .string Nm, u] w (NewRes (.int .i64 r) w) := by
  obtain ⟨q, d, rfl⟩ := hu.out.slice
  obtain ⟨AR, hAR⟩ : ∃ V : ByteArray, V = ⟨(valueR b 2 Nm.data.toList (⟨#[97, 114, 101, 97]⟩ : ByteArray).data.toList).toArray⟩ := ⟨_, rfl⟩
  have hAR' := Lib.hid hAR
  have hz' : Hid (cs.foldl (stepF Nm.data.toList AR.data.toList) 10 = r) := Lib.hid (by rw [hAR, ← hz.out]; rfl)
  clear hAR hz
  go_enter Tryz.func42, Tryz.ntmps42
  go_wp2_with fail
  refine (value_any _ b 2 Nm ⟨#[97, 114, 101, 97]⟩ AR _ hv hr hAR').mono ?_
  rintro e w1 ⟨rfl, k1⟩
  have hu1 := Lib.hid (hu.out.keep k1)
  have hk1 := Lib.hid k1
  clear k1 hu hv hr hAR'
  go_wp2_with fail
  go_loopw [16, 8] (fun iv lv wr => ∃ (k : Nat) (x : Int), k ≤ cs.length ∧ iv = .int .i64 k ∧ lv = .int .i64 x ∧ Hid ((cs.take k).foldl (stepF Nm.data.toList AR.data.toList) 10 = x) ∧ Hid (Keeps (fun _ => False) w1 wr)) (fun iv _ _ => cs.length - (intOf iv).toNat)
  case atStart => exact ⟨0, 10, by omega, rfl, rfl, Lib.hid rfl, Lib.hid (Keeps.refl _ _)⟩
  case round =>
    obtain ⟨k, x, hk, rfl, rfl, hx, hkr⟩ := hrel
    by_cases hlk : k < cs.length
    · obtain ⟨g, o, rfl, hrows⟩ := hu1.out.open (by omega)
      obtain ⟨l, hll⟩ : ∃ l, cs[k]? = some l := ⟨_, List.getElem?_eq_getElem hlk⟩
      obtain ⟨N, hN⟩ : ∃ N : ByteArray, N = ⟨l.line.name.toArray⟩ := ⟨_, rfl⟩
      obtain ⟨F, hF⟩ : ∃ N : ByteArray, N = ⟨l.line.leaf.toArray⟩ := ⟨_, rfl⟩
      obtain ⟨V, hV⟩ : ∃ N : ByteArray, N = ⟨l.line.value.toArray⟩ := ⟨_, rfl⟩
      obtain ⟨O, hO⟩ : ∃ N : ByteArray, N = ⟨l.old.toArray⟩ := ⟨_, rfl⟩
      obtain ⟨W, hW⟩ : ∃ N : ByteArray, N = ⟨l.new.toArray⟩ := ⟨_, rfl⟩
      have hrow : Hid (wr.rangeAt g (o + k * 6) [.int .i64 l.line.head, .string N, .string F, .string V, .string O, .string W]) := Lib.hid (by rw [hN, hF, hV, hO, hW]; exact hkr.out.rangeAt (hrows k l hll) id)
      have hst : Hid ((cs.take (k + 1)).foldl (stepF Nm.data.toList AR.data.toList) 10 = stepF Nm.data.toList AR.data.toList x l) := Lib.hid (by rw [fold_take _ _ hll, hx.out])
      have hln : Hid (N.data.toList = l.line.name ∧ F.data.toList = l.line.leaf) := Lib.hid (by rw [hN, hF]; exact ⟨rfl, rfl⟩)
      generalize hhd : l.line.head = hd at hrow
      have hhd' := Lib.hid hhd
      obtain ⟨z1, h1⟩ : ∃ z, decide (hd = 2) = z := ⟨_, rfl⟩
      obtain ⟨z2, h2⟩ : ∃ z, decide (N.data.toList = Nm.data.toList) = z := ⟨_, rfl⟩
      obtain ⟨zt, ht⟩ : ∃ z, typeB l = z := ⟨_, rfl⟩
      obtain ⟨z3, h3⟩ : ∃ z, decide (N.data.toList = AR.data.toList) = z := ⟨_, rfl⟩
      obtain ⟨y, hy⟩ : ∃ y, leafK F.data.toList = y := ⟨_, rfl⟩
      obtain ⟨m1, hm1⟩ : ∃ m, (if y < x then y else x) = m := ⟨_, rfl⟩
      obtain ⟨m2, hm2⟩ : ∃ m, (if 5 < x then 5 else x) = m := ⟨_, rfl⟩
      have hsv : Hid ((cs.take (k + 1)).foldl (stepF Nm.data.toList AR.data.toList) 10 = if (z1 && z2) = true then m1 else if (zt && z3) = true then m2 else x) := Lib.hid (by
        rw [hst.out, ← h1, ← h2, ← h3, ← ht, ← hm1, ← hm2, ← hy, hln.out.1, hln.out.2, ← hhd]
        unfold stepF
        rw [min_if, min_if]
        simp only [Bool.and_eq_true, decide_eq_true_eq])
      have hm1' := Lib.hid hm1
      have hm2' := Lib.hid hm2
      have htt : Hid ((decide (hd = 1) && decide (F.data.toList = typW)) = zt) := Lib.hid (by rw [← ht, hln.out.2, ← hhd]; rfl)
      have hyy := Lib.hid hy
      have e1 : (hd == 2) = z1 := by rw [← h1]; by_cases e : hd = 2 <;> simp [e]
      have e2 : (N.toList == Nm.toList) = z2 := by rw [← h2]; exact eq_list N Nm
      have e3 : (N.toList == AR.toList) = z3 := by rw [← h3]; exact eq_list N AR
      have hB : Hid ((wr.alloc (.cells #[.int .i64 hd, .string N, .string F, .string V, .string O, .string W] 94)).rangeAt wr.heap.size 0 [.int .i64 hd, .string N, .string F, .string V]) := Lib.hid (range_pre (b := [.string O, .string W]) (BlkAt.new wr 94 [.int .i64 hd, .string N, .string F, .string V, .string O, .string W]).range)
      have hkb := Lib.hid (hkr.out.alloc (.cells #[.int .i64 hd, .string N, .string F, .string V, .string O, .string W] 94))
      clear hm1 hm2 h1 h2 h3 ht hy hhd hst hln hrows hll hN hF hV hO hW hx hkr
      go_upto_region 6 with (first | ((with_reducible refine at_slot 19 ?_); refine wpList_load_mid rfl 94 (.tmp 18) rfl g (o + k * 6) rfl _ _ hrow.out Tryz.underlying94 rfl changeInfo ?_) | ((with_reducible refine at_store 10 ?_); refine wpList_store_new rfl 94 (.tmp 10) (.tmp 19) rfl _ #[.int .i64 hd, .string N, .string F, .string V, .string O, .string W] rfl rfl changeInfo rfl (change_one _ _ _ _ _ _) ?_))
      cases z1 with
      | true =>
        cases z2 with
        | true =>
          go_wp2_with fail
          refine (plLeaf_any F y _ hyy).mono ?_
          rintro e w2 ⟨rfl, k2⟩
          have hk2 := Lib.hid (hkb.out.trans k2)
          clear k2 hkb hB htt hyy
          go_wp2_with fail
          exact ⟨⟨k + 1, m1, by omega, by go_num, by rw [hm1'.out], by simpa using hsv, hk2⟩, by simp [intOf]; omega⟩
        | false =>
          go_wp2_with fail
          refine (plType_r hd N F V zt _ htt).mono ?_
          rintro e w2 ⟨rfl, k2⟩
          have hk2 := Lib.hid (hkb.out.trans k2)
          have c1 : w2.cell? ⟨wr.heap.size, 1, none⟩ = some (.string N) := (k2.rangeAt hB.out id) 1 _ rfl
          clear k2 hkb hB htt hyy
          cases zt with
          | true =>
            cases z3 with
            | true =>
              go_wp2_with fail
              exact ⟨⟨k + 1, m2, by omega, by go_num, by rw [hm2'.out], by simpa using hsv, hk2⟩, by simp [intOf]; omega⟩
            | false =>
              go_wp2_with fail
              exact ⟨⟨k + 1, x, by omega, by go_num, rfl, by simpa using hsv, hk2⟩, by simp [intOf]; omega⟩
          | false =>
            go_wp2_with fail
            exact ⟨⟨k + 1, x, by omega, by go_num, rfl, by simpa using hsv, hk2⟩, by simp [intOf]; omega⟩
      | false =>
        go_wp2_with fail
        refine (plType_r hd N F V zt _ htt).mono ?_
        rintro e w2 ⟨rfl, k2⟩
        have hk2 := Lib.hid (hkb.out.trans k2)
        have c1 : w2.cell? ⟨wr.heap.size, 1, none⟩ = some (.string N) := (k2.rangeAt hB.out id) 1 _ rfl
        clear k2 hkb hB htt hyy
        cases zt with
        | true =>
          cases z3 with
          | true =>
            go_wp2_with fail
            exact ⟨⟨k + 1, m2, by omega, by go_num, by rw [hm2'.out], by simpa using hsv, hk2⟩, by simp [intOf]; omega⟩
          | false =>
            go_wp2_with fail
            exact ⟨⟨k + 1, x, by omega, by go_num, rfl, by simpa using hsv, hk2⟩, by simp [intOf]; omega⟩
        | false =>
          go_wp2_with fail
          exact ⟨⟨k + 1, x, by omega, by go_num, rfl, by simpa using hsv, hk2⟩, by simp [intOf]; omega⟩
    · obtain rfl : k = cs.length := by omega
      rw [List.take_length] at hx
      have hxr : Hid (x = r) := Lib.hid (hx.out.symm.trans hz'.out)
      clear hx hlk
      go_wp2_with fail
      go_ret
      exact ⟨by rw [hxr.out]; rfl, hk1.out.trans hkr.out⟩

set_option maxRecDepth 100000 in
set_option maxHeartbeats 16000000 in
theorem plAreas_any (u : Value) (cs : List ChD) (w : World) (hu : Hid (RowsAt 6 cVals w u cs)) (hl : cs.length ≤ 1000000) :
    Calls Tryz.prog 18 #[u] w (fun e w' => ∃ p c, e = .returned (.slice p (areasC cs).length c) ∧ OwnR 53 2 aVals w w' (.slice p (areasC cs).length c) (areasC cs) ∧ Keeps (fun _ => False) w w') := by
  obtain ⟨q, d, rfl⟩ := hu.out.slice
  obtain ⟨i0, hi0, hi1, hi2, hi3⟩ := actAll
  go_enter Tryz.func18, Tryz.ntmps18
  go_wp2_with fail
  go_loopw [8, 3] (fun iv lv wr => ∃ (k : Nat) (L : List ActD) (pa : Option Addr) (ca : Nat), k ≤ cs.length ∧ iv = .int .i64 k ∧ lv = .slice pa L.length ca ∧ L.length ≤ k ∧ Hid (L = areasC (cs.take k)) ∧ Hid (OwnR 53 2 aVals w wr lv L) ∧ Hid (Keeps (fun _ => False) w wr)) (fun iv _ _ => cs.length - (intOf iv).toNat)
  case atStart => exact ⟨0, [], none, 0, by omega, rfl, rfl, by simp, Lib.hid rfl, Lib.hid (OwnR.nil _ _ (Nat.le_refl _)), Lib.hid (Keeps.refl _ _)⟩
  case round =>
    obtain ⟨k, L, pa, ca, hk, rfl, rfl, hLl, hL, hOw, hkr⟩ := hrel
    by_cases hlk : k < cs.length
    · obtain ⟨g, o, rfl, hrows⟩ := hu.out.open (by omega)
      obtain ⟨l, hll⟩ : ∃ l, cs[k]? = some l := ⟨_, List.getElem?_eq_getElem hlk⟩
      obtain ⟨N, hN⟩ : ∃ N : ByteArray, N = ⟨l.line.name.toArray⟩ := ⟨_, rfl⟩
      obtain ⟨F, hF⟩ : ∃ N : ByteArray, N = ⟨l.line.leaf.toArray⟩ := ⟨_, rfl⟩
      obtain ⟨V, hV⟩ : ∃ N : ByteArray, N = ⟨l.line.value.toArray⟩ := ⟨_, rfl⟩
      obtain ⟨O, hO⟩ : ∃ N : ByteArray, N = ⟨l.old.toArray⟩ := ⟨_, rfl⟩
      obtain ⟨W, hW⟩ : ∃ N : ByteArray, N = ⟨l.new.toArray⟩ := ⟨_, rfl⟩
      have hrow : Hid (wr.rangeAt g (o + k * 6) [.int .i64 l.line.head, .string N, .string F, .string V, .string O, .string W]) := Lib.hid (by rw [hN, hF, hV, hO, hW]; exact hkr.out.rangeAt (hrows k l hll) id)
      generalize hhd : l.line.head = hd at hrow
      obtain ⟨z1, h1⟩ : ∃ z, decide (hd = 1) = z := ⟨_, rfl⟩
      obtain ⟨z2, h2⟩ : ∃ z, decide (F.data.toList = costW) = z := ⟨_, rfl⟩
      have hst : Hid (areasC (cs.take (k + 1)) = L ++ (if (z1 && z2) = true then [⟨7, N.data.toList⟩] else [])) := Lib.hid (by
        unfold areasC
        rw [flat_take _ hll, hL.out, ← h1, ← h2, hN, hF, ← hhd]
        rfl)
      have e1 : (hd == 1) = z1 := by rw [← h1]; by_cases e : hd = 1 <;> simp [e]
      have e2 := ba_eqr F costW
      rw [h2] at e2
      unfold costW at e2
      have hO9 := Lib.hid (hOw.out.keep ((Keeps.refl (fun _ => False) wr).alloc (.cells #[.int .i64 hd, .string N, .string F, .string V, .string O, .string W] 94)) (fun _ _ f => f))
      have hK9 := Lib.hid (hkr.out.alloc (.cells #[.int .i64 hd, .string N, .string F, .string V, .string O, .string W] 94))
      clear h1 h2 hhd hrows hll hN hF hV hO hW hL hkr hOw
      go_upto_region 5 with (first | ((with_reducible refine at_slot 11 ?_); refine wpList_load_mid rfl 94 (.tmp 10) rfl g (o + k * 6) rfl _ _ hrow.out Tryz.underlying94 rfl changeInfo ?_) | ((with_reducible refine at_store 5 ?_); refine wpList_store_new rfl 94 (.tmp 5) (.tmp 11) rfl _ #[.int .i64 hd, .string N, .string F, .string V, .string O, .string W] rfl rfl changeInfo rfl (change_one _ _ _ _ _ _) ?_))
      cases z1 with
      | true =>
        cases z2 with
        | true =>
          go_wp2_with ((with_reducible refine at_slot 28 ?_); go_must (refine wpList_append_r rfl (.tmp 22) (.tmp 27) 24 53 rfl i0 _ 24 Tryz.underlying24 hi0 hi1 hi2 hi3 rfl (by decide) (by decide) aVals_len w _ L.length L rfl rfl (hO9.out.keep ((Keeps.refl (fun _ => False) _).alloc _) (fun _ _ f => f)) _ rfl ⟨7, N.data.toList⟩ (cells_new (w := wr.alloc (.cells #[.int .i64 hd, .string N, .string F, .string V, .string O, .string W] 94)) (n := wr.heap.size + 1) (alloc_size _ _).symm [.int .i64 7, .string N] _) (aVals_one _) (by omega) ?_); intro q8 d8 w8 hO8 hg8)
          have hK8 := Lib.hid ((hO9.out.keep ((Keeps.refl (fun _ => False) _).alloc (.cells #[.int .i64 7, .string N] 53)) (fun _ _ f => f)).keeps (hK9.out.alloc _) hg8.out)
          exact ⟨⟨k + 1, L ++ [⟨7, N.data.toList⟩], q8, d8, by omega, by go_num, by simp, by simp; omega, by simpa using Lib.hid hst.out.symm, by simpa using hO8, hK8⟩, by simp [intOf]; omega⟩
        | false =>
          go_wp2_with fail
          exact ⟨⟨k + 1, L, pa, ca, by omega, by go_num, rfl, by omega, by simpa using Lib.hid hst.out.symm, hO9, hK9⟩, by simp [intOf]; omega⟩
      | false =>
        go_wp2_with fail
        exact ⟨⟨k + 1, L, pa, ca, by omega, by go_num, rfl, by omega, by simpa using Lib.hid hst.out.symm, hO9, hK9⟩, by simp [intOf]; omega⟩
    · obtain rfl : k = cs.length := by omega
      rw [List.take_length] at hL
      clear hlk
      go_wp2_with fail
      go_ret
      rw [← hL.out]
      exact ⟨pa, ca, rfl, hOw.out, hkr.out⟩
end Go.Proofs.YtmclnamgihphcaaGreat
