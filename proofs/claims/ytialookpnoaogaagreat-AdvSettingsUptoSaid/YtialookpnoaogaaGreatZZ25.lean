/- Of adv: settings. -/
import Derived.Test.YtialookpnoaogaaGreatZZ21
import Derived.Test.YtialookpnoaogaaGreatZZ05
import Derived.Test.YtialookpnoaogaaGreatZZ24
import Derived.Laws.EntriesVeiled
import Derived.Shelf.Strings.Builder1
import Derived.Test.YtialookpnoaogaaGreatZZ18
import Derived.Laws.ResultCell
set_option linter.unusedVariables false
set_option linter.unusedSimpArgs false
set_option linter.unusedVariables false
set_option linter.unusedSimpArgs false
namespace Go.Proofs.YtialookpnoaogaaGreat
open Go.RowKit

theorem load_fnss (w : World) (b o : Nat) (v : Value) (h : w.cell? ⟨b, o, none⟩ = some v) : (loadVar 121 ⟨b, o, none⟩).run Tryz.prog w = .ok v w := by simp [go_sem, h]
theorem ret_cell1 {P : Program} {fn : Func} {p : Tmp} {ty : TypeId} (h : fn.results = #[.cell p ty]) (tmps : Array Value) (w : World) (b : Nat) (cs : List Value) (d : TypeDesc) (hp : tmps.getD p undef = .pointer (some ⟨b, 0, none⟩))
    (hc : w.rangeAt b 0 cs) (hu : P.underlying ty = some d) (hd : d.isRow = true) (hi : (P.info? ty).map (·.size) = some cs.length) : (results fn tmps).run P w = .ok (.agg cs.toArray) w := by
  have hl := run_loadVar_mid w b 0 ty cs d hc hu hd hi
  have e : (results fn tmps).run P w = ((asAddr (tmps.getD p undef)).run P w).andThen fun a w₁ => (loadVar ty a).run P w₁ := by
    simp only [results, h]
    simp [Sem.run_bind, Result.andThen]
  rw [e, hp]
  simp only [asAddr, Sem.run_pure, Result.andThen, hl]
def aAreaW : List UInt8 := [97, 114, 101, 97]
def aAddrW : List UInt8 := [97, 100, 100, 114, 101, 115, 115]
def aCostW : List UInt8 := [99, 111, 115, 116]
def aHelloW : List UInt8 := [104, 101, 108, 108, 111]
def aDeadW : List UInt8 := [100, 101, 97, 100]
def aAgainW : List UInt8 := [114, 101, 116, 114, 97, 110, 115, 109, 105, 116]
def aPrioW : List UInt8 := [112, 114, 105, 111, 114, 105, 116, 121]
def aNetW : List UInt8 := [110, 101, 116, 119, 111, 114, 107]
def aTwoW : List UInt8 := [112, 111, 105, 110, 116, 45, 116, 111, 45, 112, 111, 105, 110, 116]
def aAuthW : List UInt8 := [97, 117, 116, 104]
def numR (ls : List LineD) (n l : List UInt8) : Nat := (decL (valueR ls 2 n l)).getD 0
def maskD (k : Nat) : Nat := 4294967295 * 2 ^ (32 - k) % 4294967296
/-- an interface's numbers -/
def setD (ls : List LineD) (n : List UInt8) : SetD :=
  { area := (addrL (valueR ls 2 n aAreaW)).getD 0
    addr := ((netL (valueR ls 2 n aAddrW)).getD (0, 0)).1
    mask := maskD ((netL (valueR ls 2 n aAddrW)).getD (0, 0)).2
    cost := numR ls n aCostW, hello := numR ls n aHelloW, dead := numR ls n aDeadW, again := numR ls n aAgainW, prio := numR ls n aPrioW
    two := valueR ls 2 n aNetW == aTwoW
    auth := valueR ls 2 n aAuthW }
set_option maxRecDepth 100000 in
set_option maxHeartbeats 8000000 in
theorem settings_any (v : Value) (ls : List LineD) (n : List UInt8) (w : World) (hv : Hid (RowsAt 4 lineVals w v ls)) (hr : Hid (rightC ls = true)) (h0 : 0 < ls.length) :
    Calls Tryz.prog 21 #[v, strv n] w (NewRes (.agg (setVals (setD ls n)).toArray) w) := by
  obtain ⟨p, c, rfl⟩ := hv.out.slice
  have hl := right_len hr.out
  obtain ⟨N, hN⟩ : ∃ N : ByteArray, (⟨n.toArray⟩ : ByteArray) = N := ⟨_, rfl⟩
  have hN' := Lib.hid hN
  unfold strv
  rw [hN]
  clear hN
  have hcl := Lib.hid (fun W (k : Keeps (fun _ => False) w W) => cloneLines_any _ ls W (Lib.hid (hv.out.keep k)) (by omega) h0)
  go_enter Tryz.func21, Tryz.ntmps21
  go_wp2_with fail
  obtain ⟨W0, hW0⟩ : ∃ W, (w.alloc (.cells #[.string N] 9)).alloc (.cells #[.int .u32 0, .int .u32 0, .int .u32 0, .int .i64 0, .int .i64 0, .int .i64 0, .int .i64 0, .int .i64 0, .bool false, .string ⟨#[]⟩] 45) = W := ⟨_, rfl⟩
  rw [hW0]
  have hk0 : Hid (Keeps (fun _ => False) w W0) := Lib.hid (by rw [← hW0]; exact ((Keeps.refl _ _).alloc _).alloc _)
  have hcN : Hid (W0.cell? ⟨w.heap.size, 0, none⟩ = some (strv n)) := Lib.hid (by
    rw [← hW0]
    refine (((Keeps.refl (fun _ => False) _).alloc _).cell (p := ⟨w.heap.size, 0, none⟩) (by simp) id).trans ?_
    have h := cells_new (w := w) rfl [.string N] 9 0 _ rfl
    unfold strv
    rw [hN'.out]
    exact h)
  have hB4 : Hid (BlkAt W0 (w.heap.size + 1) 45 [.int .u32 0, .int .u32 0, .int .u32 0, .int .i64 0, .int .i64 0, .int .i64 0, .int .i64 0, .int .i64 0, .bool false, .string ⟨#[]⟩]) := Lib.hid (by
    rw [← hW0]
    have h := BlkAt.new (w.alloc (.cells #[.string N] 9)) 45 [.int .u32 0, .int .u32 0, .int .u32 0, .int .i64 0, .int .i64 0, .int .i64 0, .int .i64 0, .int .i64 0, .bool false, .string ⟨#[]⟩]
    have e : (w.alloc (.cells #[.string N] 9)).heap.size = w.heap.size + 1 := by simp
    rw [e] at h
    exact h)
  obtain ⟨b3, hb3⟩ : ∃ b, w.heap.size = b := ⟨_, rfl⟩
  rw [hb3] at hcN hB4 ⊢
  obtain ⟨b4, hb4⟩ : ∃ b, b3 + 1 = b := ⟨_, rfl⟩
  rw [hb4] at hB4 ⊢
  have hb34 : Hid (b3 < b4 ∧ w.heap.size ≤ b4) := Lib.hid (by omega)
  clear hW0 hb4 hb3
  refine (hcl.out _ hk0.out).mono ?_
  rintro e w1 ⟨p1, c1, rfl, hO1, hk1⟩
  have hk1' := Lib.hid (hk0.out.trans hk1)
  have hcN1 := Lib.hid ((hk1.cell (p := ⟨b3, 0, none⟩) (World.block_lt_of_cell? W0 _ hcN.out) id).trans hcN.out)
  have hB41 := Lib.hid (hB4.out.keep hk1 id)
  have hdl := Lib.hid (delLines_any _ ls n b3 W0 w1 (Lib.hid hO1) (by omega) hcN1 (Lib.hid (fun k e e2 => by
    have h1 := hO1.2.1 k e
    have h2 := World.block_lt_of_cell? W0 _ hcN.out
    have h3 : b3 < W0.heap.size := h2
    omega)))
  have hnB4 : Hid (∀ k, (Value.slice p1 ls.length c1).ownBlock = some k → W0.heap.size ≤ k) := Lib.hid hO1.2.1
  have hlB4 : Hid (b4 < W0.heap.size ∧ b3 < W0.heap.size) := Lib.hid ⟨lt_of_block hB4.out, World.block_lt_of_cell? W0 _ hcN.out⟩
  have hkW0 := Lib.hid hk1
  clear hcl hO1 hk1 hB4 hcN
  go_wp2_with fail
  refine hdl.out.mono ?_
  rintro e w2 ⟨p2, c2, rfl, hO2, hk2⟩
  have hB42 := Lib.hid (hB41.out.keep hk2 (fun e => by
    have h1 := hnB4.out b4 e
    have h2 := hlB4.out.1
    omega))
  have hk2' : Hid (Keeps (fun _ => False) W0 w2) := Lib.hid (hkW0.out.trans' hk2 (fun i hi => .inr (hnB4.out i hi)))
  go_upto_region 4 with fail
  have hO2' := Lib.hid hO2
  have hcN2 := Lib.hid ((hk2'.out.cell (p := ⟨b3, 0, none⟩) hlB4.out.2 id).trans ((hkW0.out.cell (p := ⟨b3, 0, none⟩) hlB4.out.2 id).symm.trans hcN1.out))
  have hs2 := Lib.hid hk2'.out.size
  have hkw2 := Lib.hid (hk0.out.trans hk2'.out)
  obtain ⟨gO, hgO⟩ : ∃ b, w2.heap.size = b := ⟨_, rfl⟩
  obtain ⟨W1, hW1⟩ : ∃ W, (w2.alloc (.cells #[.slice p2 (ownL n ls).length c2] 30)).alloc (.cells #[.func (.func 53) #[] #[.pointer (some ⟨gO, 0, none⟩), .pointer (some ⟨b3, 0, none⟩)]] 121) = W := ⟨_, rfl⟩
  rw [hgO, hW1]
  have hkA : Keeps (fun _ => False) w2 W1 := by rw [← hW1]; exact ((Keeps.refl _ _).alloc _).alloc _
  have hcO : W1.cell? ⟨gO, 0, none⟩ = some (.slice p2 (ownL n ls).length c2) := by
    rw [← hW1]
    refine (((Keeps.refl (fun _ => False) _).alloc _).cell (p := ⟨gO, 0, none⟩) (by simp [hgO]) id).trans ?_
    have h := cells_new (w := w2) rfl [.slice p2 (ownL n ls).length c2] 30 0 _ rfl
    rw [hgO] at h
    exact h
  have hcF : W1.cell? ⟨gO + 1, 0, none⟩ = some (.func (.func 53) #[] #[.pointer (some ⟨gO, 0, none⟩), .pointer (some ⟨b3, 0, none⟩)]) := by
    rw [← hW1]
    have h := cells_new (w := w2.alloc (.cells #[.slice p2 (ownL n ls).length c2] 30)) rfl [.func (.func 53) #[] #[.pointer (some ⟨gO, 0, none⟩), .pointer (some ⟨b3, 0, none⟩)]] 121 0 _ rfl
    have e : (w2.alloc (.cells #[.slice p2 (ownL n ls).length c2] 30)).heap.size = gO + 1 := by simp [hgO]
    rw [e] at h
    exact h
  have hlt1 : gO + 1 < W1.heap.size := World.block_lt_of_cell? W1 _ hcF
  have hne : b4 < gO ∧ b3 ≠ b4 := ⟨by have h1 := hlB4.out.1; have h2 := hs2.out; omega, by have := hb34.out.1; omega⟩
  have hS : Hid (∀ W, Keeps (fun k => k = b4) W1 W → RowsAt 4 lineVals W (.slice p2 (ownL n ls).length c2) (ownL n ls) ∧ W.cell? ⟨gO, 0, none⟩ = some (.slice p2 (ownL n ls).length c2) ∧ W.cell? ⟨b3, 0, none⟩ = some (strv n) ∧ W.cell? ⟨gO + 1, 0, none⟩ = some (.func (.func 53) #[] #[.pointer (some ⟨gO, 0, none⟩), .pointer (some ⟨b3, 0, none⟩)])) := Lib.hid (fun W k => by
    refine ⟨((hO2'.out.at lineVals_len).keep hkA).keepF k (fun _ i e e2 => ?_), (k.cell (p := ⟨gO, 0, none⟩) (by show gO < _; omega) (by show ¬ gO = b4; omega)).trans hcO, (k.cell (p := ⟨b3, 0, none⟩) (by have := hlB4.out.2; have h2 := hkA.size; have h3 := hs2.out; show b3 < _; omega) hne.2).trans ((hkA.cell (p := ⟨b3, 0, none⟩) (by have := hlB4.out.2; have h3 := hs2.out; show b3 < _; omega) id).trans hcN2.out), (k.cell (p := ⟨gO + 1, 0, none⟩) hlt1 (by show ¬ gO + 1 = b4; omega)).trans hcF⟩
    have h1 := hO2'.out.2.1 i e
    have h2 := hlB4.out.1
    omega)
  have hBW1 := Lib.hid (hB42.out.keep hkA id)
  have hkw1 := Lib.hid (hkw2.out.trans hkA)
  clear hcO hcF hlt1 hne hkA hW1 hgO hcN2 hO2' hO2 hk2' hk2 hkw2 hs2 hdl hkW0 hcN1 hnB4 hv
  have hsz : ∀ F, (⟨(valueR ls 2 n F).toArray⟩ : ByteArray).size ≤ 9223372036854775807 := fun F => by
    have h := valueR_small hr.out 2 n F
    show (valueR ls 2 n F).toArray.size ≤ _
    simpa using h
  have hA : Hid (∀ (F : List UInt8) (V : ByteArray), V = ⟨(valueR ls 2 n F).toArray⟩ → ∀ W, Keeps (fun k => k = b4) W1 W → Calls Tryz.prog 53 #[.string ⟨F.toArray⟩, .pointer (some ⟨gO, 0, none⟩), .pointer (some ⟨b3, 0, none⟩)] W (NewRes (.string V) W)) := Lib.hid (fun F V hV W k => by
    obtain ⟨s1, s2, s3, s4⟩ := hS.out W k
    exact advSet2_any _ ls n gO b3 ⟨F.toArray⟩ V W (Lib.hid s1) hr (Lib.hid s2) (Lib.hid s3) (Lib.hid hV))
  have hNm : Hid (∀ (F : List UInt8) (m : Nat), numR ls n F = m → ∀ W, Keeps (fun k => k = b4) W1 W → Calls Tryz.prog 54 #[.string ⟨F.toArray⟩, .pointer (some ⟨gO + 1, 0, none⟩)] W (NewRes (.int .i64 m) W)) := Lib.hid (fun F m hm W k => by
    obtain ⟨s1, s2, s3, s4⟩ := hS.out W k
    have h := advSet3_any _ ls n gO b3 (gO + 1) ⟨F.toArray⟩ (decL (valueR ls 2 n F)) W (Lib.hid s1) hr (Lib.hid s2) (Lib.hid s3) (Lib.hid s4) (Lib.hid rfl)
    rw [← hm]; exact h)
  have hF4 : Hid (∀ W, Keeps (fun k => k = b4) W1 W → W.cell? ⟨gO + 1, 0, none⟩ = some (.func (.func 53) #[] #[.pointer (some ⟨gO, 0, none⟩), .pointer (some ⟨b3, 0, none⟩)])) := Lib.hid (fun W k => (hS.out W k).2.2.2)
  clear hS
  obtain ⟨V1, hV1⟩ : ∃ V : ByteArray, V = ⟨(valueR ls 2 n aAreaW).toArray⟩ := ⟨_, rfl⟩
  obtain ⟨V2, hV2⟩ : ∃ V : ByteArray, V = ⟨(valueR ls 2 n aAddrW).toArray⟩ := ⟨_, rfl⟩
  obtain ⟨r1, hr1⟩ : ∃ r, addrL (valueR ls 2 n aAreaW) = r := ⟨_, rfl⟩
  obtain ⟨r2, hr2⟩ : ∃ r, netL (valueR ls 2 n aAddrW) = r := ⟨_, rfl⟩
  have hAd : Hid (∀ W, Calls Tryz.prog 36 #[.string V1] W fun e w' => e = .returned (.tuple #[.int .u32 (r1.getD 0 : Nat), .bool r1.isSome]) ∧ Keeps (fun _ => False) W w') := Lib.hid (fun W => by
    have h := addr_r V1 r1 W (by rw [hV1]; exact hsz _) (Lib.hid (by rw [hV1]; exact hr1))
    refine h.mono ?_
    rintro e w' ⟨he, m, hm⟩
    refine ⟨by rw [he]; cases r1 <;> rfl, by rw [hm]; exact (Keeps.refl _ _).drewN m⟩)
  have hNt : Hid (∀ W, Calls Tryz.prog 56 #[.string V2] W fun e w' => e = .returned (.tuple #[.int .u32 ((r2.getD (0, 0)).1 : Nat), .int .i64 ((r2.getD (0, 0)).2 : Nat), .bool r2.isSome]) ∧ Keeps (fun _ => False) W w') := Lib.hid (fun W => by
    have h := net_r V2 r2 W (by rw [hV2]; exact hsz _) (Lib.hid (by rw [hV2]; exact hr2))
    refine h.mono ?_
    rintro e w' ⟨he, m, hm⟩
    refine ⟨by rw [he]; cases r2 <;> rfl, by rw [hm]; exact (Keeps.refl _ _).drewN m⟩)
  have c0 := hF4.out W1 (Keeps.refl _ _)
  have h1 := Lib.hid (hA.out aAreaW V1 hV1 W1 (Keeps.refl _ _))
  have hV1' := Lib.hid hV1
  have hV2' := Lib.hid hV2
  have hr1' := Lib.hid hr1
  have hr2' := Lib.hid hr2
  clear hV1 hV2 hr1 hr2 hsz
  go_wp2_with fail
  refine h1.out.mono ?_
  rintro e w3 ⟨rfl, hk3⟩
  have hk3' := Lib.hid hk3
  clear h1 hk3 c0
  go_wp2_with fail
  refine (hAd.out _).mono ?_
  rintro e w4 ⟨rfl, hk4⟩
  have hk4' := Lib.hid (hk3'.out.trans hk4)
  have c0 := hF4.out w4 (hk4'.out.mono (fun _ f => f.elim))
  have h1 := Lib.hid (hA.out aAddrW V2 hV2'.out w4 (hk4'.out.mono (fun _ f => f.elim)))
  clear hAd hk4 hk3'
  go_wp2_with fail
  refine h1.out.mono ?_
  rintro e w5 ⟨rfl, hk5⟩
  have hk5' := Lib.hid (hk4'.out.trans hk5)
  clear h1 hk5 hk4' c0
  go_wp2_with fail
  refine (hNt.out _).mono ?_
  rintro e w6 ⟨rfl, hk6⟩
  have hk6' := Lib.hid (hk5'.out.trans hk6)
  clear hNt hk6 hk5'
  have hB6 := Lib.hid (hBW1.out.keep hk6'.out id)
  obtain ⟨A1, hA1⟩ : ∃ a, r1.getD 0 = a := ⟨_, rfl⟩
  obtain ⟨X2, hX2⟩ : ∃ a, (r2.getD (0, 0)).1 = a := ⟨_, rfl⟩
  obtain ⟨K2, hK2⟩ : ∃ a, (r2.getD (0, 0)).2 = a := ⟨_, rfl⟩
  have hK32 : K2 ≤ 32 := by
    cases e : r2 with
    | none => rw [← hK2, e]; exact Nat.zero_le _
    | some q =>
      obtain ⟨a, m⟩ := q
      have h := (netL_in (hr2'.out.trans e)).2.2
      rw [← hK2, e]; exact h
  obtain ⟨m1, hm1⟩ : ∃ m, numR ls n aCostW = m := ⟨_, rfl⟩
  obtain ⟨m2, hm2⟩ : ∃ m, numR ls n aHelloW = m := ⟨_, rfl⟩
  obtain ⟨m3, hm3⟩ : ∃ m, numR ls n aDeadW = m := ⟨_, rfl⟩
  obtain ⟨m4, hm4⟩ : ∃ m, numR ls n aAgainW = m := ⟨_, rfl⟩
  obtain ⟨m5, hm5⟩ : ∃ m, numR ls n aPrioW = m := ⟨_, rfl⟩
  have hN1 := Lib.hid (hNm.out aCostW m1 hm1)
  have hN2 := Lib.hid (hNm.out aHelloW m2 hm2)
  have hN3 := Lib.hid (hNm.out aDeadW m3 hm3)
  have hN4 := Lib.hid (hNm.out aAgainW m4 hm4)
  have hN5 := Lib.hid (hNm.out aPrioW m5 hm5)
  obtain ⟨V6, hV6⟩ : ∃ V : ByteArray, V = ⟨(valueR ls 2 n aNetW).toArray⟩ := ⟨_, rfl⟩
  obtain ⟨V7, hV7⟩ : ∃ V : ByteArray, V = ⟨(valueR ls 2 n aAuthW).toArray⟩ := ⟨_, rfl⟩
  have hN6 := Lib.hid (hA.out aNetW V6 hV6)
  have hN7 := Lib.hid (hA.out aAuthW V7 hV7)
  obtain ⟨tw, htw⟩ : ∃ z, (V6.toList == (⟨#[112, 111, 105, 110, 116, 45, 116, 111, 45, 112, 111, 105, 110, 116]⟩ : ByteArray).toList) = z := ⟨_, rfl⟩
  have htw' := Lib.hid htw
  obtain ⟨J, hJ0⟩ : ∃ J, 32 - K2 = J := ⟨_, rfl⟩
  have hJ : Hid (IntKind.i64.wrap (32 - (K2 : Int)) = (J : Int)) := Lib.hid (by rw [IntWalk.i64_in _ (by omega)]; omega)
  have hJ1 : Hid (32 - K2 = J ∧ J ≤ 32) := Lib.hid ⟨hJ0, by omega⟩
  have hJn : (0 : Int) ≤ (J : Int) := by omega
  go_upto_region 6 with fail
  have hres := Lib.hid (And.intro hA1 (And.intro hX2 hK2))
  have hnum := Lib.hid (And.intro hm1 (And.intro hm2 (And.intro hm3 (And.intro hm4 hm5))))
  have hvv := Lib.hid (And.intro hV6 hV7)
  clear hJ0 hA1 hX2 hK2 hm1 hm2 hm3 hm4 hm5 hV6 hV7 htw hNm hA hBW1
  refine wp_region_noPanic ?_
  refine wp_region_held_drew (S := (fun W => Keeps (fun k => k = b4) W1 W ∧ ∃ cs, cs.length = 10 ∧ BlkAt W b4 45 cs)) (by kernel_rfl) ((⟨(hk6'.out.mono (fun _ f => f.elim)).drew, _, rfl, hB6.out.keep ((Keeps.refl (fun _ => False) _).drew) id⟩)) (fun hHeld => ?_)
  refine tk 0 rfl ?_
  refine tk 1 rfl ?_
  refine tk 2 rfl ?_
  refine tk 3 rfl ?_
  rw [hJ.out]
  refine tk 4 rfl ?_
  refine tk 5 rfl ?_
  refine tk 7 rfl ?_
  refine tk 9 rfl ?_
  refine tk 11 rfl ?_
  refine tk 13 rfl ?_
  refine tkL 15 rfl (yieldsIf_load_cell (by rfl) 121 (.tmp 6) rfl (gO + 1) 0 rfl _ (fun _ s => hF4.out _ s.1) (fun w s => load_fnss w _ _ _ s)) ?_
  refine tkL 18 rfl (yieldsIf_load_cell (by rfl) 121 (.tmp 6) rfl (gO + 1) 0 rfl _ (fun _ s => hF4.out _ s.1) (fun w s => load_fnss w _ _ _ s)) ?_
  refine stepL 6 rfl (by kernel_rfl) (fun K hK => ?_)
  go_simp
  (refine (hN1.out _ hHeld.1).mono ?_; rintro e w9 ⟨rfl, hk9⟩)
  go_wp2_with fail
  refine hK.out _ _ ((⟨hHeld.1.trans' hk9 (fun _ f => f.elim), by obtain ⟨cs, e1, e2⟩ := hHeld.2; exact ⟨cs, e1, e2.keep hk9 id⟩⟩)) (fun hHeld => ?_)
  clear hK K
  try simp only [Act.put, sA, sZ, sS]
  refine stepL 8 rfl (by kernel_rfl) (fun K hK => ?_)
  go_simp
  (refine (hN2.out _ hHeld.1).mono ?_; rintro e w9 ⟨rfl, hk9⟩)
  go_wp2_with fail
  refine hK.out _ _ ((⟨hHeld.1.trans' hk9 (fun _ f => f.elim), by obtain ⟨cs, e1, e2⟩ := hHeld.2; exact ⟨cs, e1, e2.keep hk9 id⟩⟩)) (fun hHeld => ?_)
  clear hK K
  try simp only [Act.put, sA, sZ, sS]
  refine stepL 10 rfl (by kernel_rfl) (fun K hK => ?_)
  go_simp
  (refine (hN3.out _ hHeld.1).mono ?_; rintro e w9 ⟨rfl, hk9⟩)
  go_wp2_with fail
  refine hK.out _ _ ((⟨hHeld.1.trans' hk9 (fun _ f => f.elim), by obtain ⟨cs, e1, e2⟩ := hHeld.2; exact ⟨cs, e1, e2.keep hk9 id⟩⟩)) (fun hHeld => ?_)
  clear hK K
  try simp only [Act.put, sA, sZ, sS]
  refine stepL 12 rfl (by kernel_rfl) (fun K hK => ?_)
  go_simp
  (refine (hN4.out _ hHeld.1).mono ?_; rintro e w9 ⟨rfl, hk9⟩)
  go_wp2_with fail
  refine hK.out _ _ ((⟨hHeld.1.trans' hk9 (fun _ f => f.elim), by obtain ⟨cs, e1, e2⟩ := hHeld.2; exact ⟨cs, e1, e2.keep hk9 id⟩⟩)) (fun hHeld => ?_)
  clear hK K
  try simp only [Act.put, sA, sZ, sS]
  refine stepL 14 rfl (by kernel_rfl) (fun K hK => ?_)
  go_simp
  (refine (hN5.out _ hHeld.1).mono ?_; rintro e w9 ⟨rfl, hk9⟩)
  go_wp2_with fail
  refine hK.out _ _ ((⟨hHeld.1.trans' hk9 (fun _ f => f.elim), by obtain ⟨cs, e1, e2⟩ := hHeld.2; exact ⟨cs, e1, e2.keep hk9 id⟩⟩)) (fun hHeld => ?_)
  clear hK K
  try simp only [Act.put, sA, sZ, sS]
  refine stepL 16 rfl (by kernel_rfl) (fun K hK => ?_)
  go_simp
  (refine (hN6.out _ hHeld.1).mono ?_; rintro e w9 ⟨rfl, hk9⟩)
  go_wp2_with fail
  refine hK.out _ _ ((⟨hHeld.1.trans' hk9 (fun _ f => f.elim), by obtain ⟨cs, e1, e2⟩ := hHeld.2; exact ⟨cs, e1, e2.keep hk9 id⟩⟩)) (fun hHeld => ?_)
  clear hK K
  try simp only [Act.put, sA, sZ, sS]
  refine tk 17 rfl ?_
  refine stepL 19 rfl (by kernel_rfl) (fun K hK => ?_)
  go_simp
  (refine (hN7.out _ hHeld.1).mono ?_; rintro e w9 ⟨rfl, hk9⟩)
  go_wp2_with fail
  refine hK.out _ _ ((⟨hHeld.1.trans' hk9 (fun _ f => f.elim), by obtain ⟨cs, e1, e2⟩ := hHeld.2; exact ⟨cs, e1, e2.keep hk9 id⟩⟩)) (fun hHeld => ?_)
  clear hK K
  try simp only [Act.put, sA, sZ, sS]
  refine tk 20 rfl ?_
  have hth9 : Hid (w9.there b4 0 10) := Lib.hid (by obtain ⟨cs, e1, e2⟩ := hHeld.2; exact e2.there 0 10 (by omega))
  refine stepL 21 rfl (by kernel_rfl) (fun K hK => ?_)
  rw [if_pos (by rfl)]
  (refine wp_store_mid 45 (.tmp 4) (.tmp 52) rfl b4 0 _ rfl rfl (by obtain ⟨cs, e1, e2⟩ := hHeld.2; exact e2.there 0 10 (by omega)) setInfo (by simp; exact ⟨rfl, rfl, rfl, rfl, rfl, rfl, rfl, rfl, rfl, rfl⟩) ?_)
  refine hK.out _ _ ((⟨hHeld.1.trans (Keeps.setCells (F := fun j => j = b4) (.inl rfl) _ _ _ (Keeps.refl _ _)), by obtain ⟨cs, e1, e2⟩ := hHeld.2; obtain ⟨c2, d1, d2, -⟩ := blk_sets _ 0 _ cs e2; exact ⟨c2, by rw [d2, e1], d1⟩⟩)) (fun hHeld => ?_)
  clear hK K
  try simp only [Act.put, sA, sZ, sS]
  refine wpAnyH_done (by kernel_rfl) (NoPanic.normal ?_) _
  have hK9 := Lib.hid hHeld.1
  clear hHeld
  have hrg := Lib.hid (World.rangeAt_setCells_same w9 b4 0 [Value.int IntKind.u32 A1, Value.int IntKind.u32 X2, Value.int IntKind.u32 (IntKind.u32.wrap (4294967295 * 2 ^ min J 32)), Value.int IntKind.i64 m1, Value.int IntKind.i64 m2, Value.int IntKind.i64 m3, Value.int IntKind.i64 m4, Value.int IntKind.i64 m5, Value.bool (V6.toList == [112, 111, 105, 110, 116, 45, 116, 111, 45, 112, 111, 105, 110, 116]), Value.string V7] hth9.out)
  generalize hWZ : w9.setCells b4 0 _ = WZ at hK9 hrg ⊢
  clear hWZ hth9
  go_wp2_with fail
  refine bodyPost_ret (ret_cell1 rfl _ WZ b4 _ _ rfl hrg.out Tryz.underlying45 rfl setInfo) rfl ⟨?_, hkw1.out.trans' hK9.out (fun i e => .inr (by rw [e]; exact hb34.out.2))⟩
  obtain ⟨f1, f2, f3⟩ := hres.out
  obtain ⟨g1, g2, g3, g4, g5⟩ := hnum.out
  obtain ⟨v6, v7⟩ := hvv.out
  obtain ⟨j1, j2⟩ := hJ1.out
  have q1 : (setD ls n).area = A1 := by show (addrL (valueR ls 2 n aAreaW)).getD 0 = _; rw [hr1'.out, f1]
  have q2 : (setD ls n).addr = X2 := by show ((netL (valueR ls 2 n aAddrW)).getD (0, 0)).1 = _; rw [hr2'.out, f2]
  have q3 : (((setD ls n).mask : Nat) : Int) = IntKind.u32.wrap (4294967295 * 2 ^ min J 32) := by
    show ((maskD ((netL (valueR ls 2 n aAddrW)).getD (0, 0)).2 : Nat) : Int) = _
    rw [hr2'.out, f3]
    unfold maskD
    rw [j1, Nat.min_eq_left j2]
    simp [IntKind.wrap, IntKind.signed, IntKind.bits]
  have q4 : (setD ls n).two = (V6.toList == [112, 111, 105, 110, 116, 45, 116, 111, 45, 112, 111, 105, 110, 116]) := by
    show (valueR ls 2 n aNetW == aTwoW) = _
    rw [v6, ba_toList]; rfl
  have q5 : strv (setD ls n).auth = .string V7 := by rw [v7]; rfl
  unfold setVals
  rw [q1, q2, q3, q4, q5, show (setD ls n).cost = m1 from g1, show (setD ls n).hello = m2 from g2, show (setD ls n).dead = m3 from g3, show (setD ls n).again = m4 from g4, show (setD ls n).prio = m5 from g5]
end Go.Proofs.YtialookpnoaogaaGreat
/- Of adv: may a configuration be used? -/
set_option linter.unusedVariables false
set_option linter.unusedSimpArgs false
namespace Go.Proofs.YtialookpnoaogaaGreat
open Go.RowKit

theorem isUsable_c (v : Value) (ls : List LineD) (z : Bool) (w : World) (hv : Hid (RowsAt 4 lineVals w v ls)) (hr : Hid (rightC ls = true)) (hz : Hid ((checkC ls).isEmpty = z)) :
    Calls Tryz.prog 18 #[v] w (NewRes (.bool z) w) := by
  have hc := Lib.hid (ruCheck_c v ls w hv hr)
  obtain ⟨F, hF⟩ : ∃ F, checkC ls = F := ⟨_, rfl⟩
  rw [hF] at hc hz
  clear hF
  go_enter Tryz.func18, Tryz.ntmps18
  go_wp2_with fail
  refine hc.out.mono ?_
  intro e w1 h1
  obtain ⟨p, c, rfl, hO, hk⟩ := h1
  have hk' := Lib.hid hk
  clear hc hO hk
  cases F with
  | nil =>
    have e1 : z = true := hz.out.symm
    subst e1
    go_wp2_with fail
    go_ret
    exact ⟨rfl, hk'.out⟩
  | cons f F =>
    have e1 : z = false := hz.out.symm
    subst e1
    obtain ⟨m, hm⟩ : ∃ m, (f :: F).length = m + 1 := ⟨F.length, rfl⟩
    simp only [hm]
    have l1 : (((m + 1 : Nat) : Int) == 0) = false := by rw [beq_eq_false_iff_ne]; omega
    go_wp2_with fail
    go_ret
    exact ⟨rfl, hk'.out⟩
end Go.Proofs.YtialookpnoaogaaGreat
/- Of adv: Settings. -/
set_option linter.unusedVariables false
set_option linter.unusedSimpArgs false
namespace Go.Proofs.YtialookpnoaogaaGreat
open Go.RowKit

theorem ret_cell_tmp {P : Program} {fn : Func} {p u : Tmp} {ty : TypeId} (h : fn.results = #[.cell p ty, .tmp u]) (tmps : Array Value) (w : World) (b : Nat) (cs : List Value) (d : TypeDesc) (hp : tmps.getD p undef = .pointer (some ⟨b, 0, none⟩))
    (hc : w.rangeAt b 0 cs) (hu : P.underlying ty = some d) (hd : d.isRow = true) (hi : (P.info? ty).map (·.size) = some cs.length) : (results fn tmps).run P w = .ok (.tuple #[.agg cs.toArray, tmps.getD u undef]) w := by
  rw [results_cell_tmp h, hp]
  have hl := run_loadVar_mid w b 0 ty cs d hc hu hd hi
  simp only [asAddr, Sem.run_pure, Result.andThen, hl]
def noSet : SetD := ⟨0, 0, 0, 0, 0, 0, 0, 0, false, []⟩
/-- what Settings answers -/
def setRes (ls : List LineD) (n : List UInt8) : SetD × Nat := if (checkC ls).isEmpty = false then (noSet, 7) else if (namesA 2 ls).contains n = false then (noSet, 6) else (setD ls n, 0)
theorem setVals_one (s : SetD) : (setVals s).toArray.all (·.oneCell') = true := by
  obtain ⟨a, b, c, d, e, f, g, h, t, u⟩ := s
  simp [setVals, strv]
  exact ⟨rfl, rfl, rfl, rfl, rfl, rfl, rfl, rfl, rfl, rfl⟩
theorem setVals_len (s : SetD) : (setVals s).length = 10 := rfl
set_option maxRecDepth 100000 in
set_option maxHeartbeats 8000000 in
theorem advSettings_c (v : Value) (ls : List LineD) (n : List UInt8) (w : World) (hv : Hid (RowsAt 4 lineVals w v ls)) (hr : Hid (rightC ls = true)) :
    Calls Tryz.prog 15 #[v, strv n] w (NewRes (.tuple #[.agg (setVals (setRes ls n).1).toArray, .int .i64 (setRes ls n).2]) w) := by
  obtain ⟨p, c, rfl⟩ := hv.out.slice
  obtain ⟨R, hR⟩ : ∃ R, setRes ls n = R := ⟨_, rfl⟩
  have hR' := Lib.hid hR
  rw [hR]
  clear hR
  obtain ⟨N, hN⟩ : ∃ N : ByteArray, (⟨n.toArray⟩ : ByteArray) = N := ⟨_, rfl⟩
  have hN' := Lib.hid hN
  unfold strv
  rw [hN]
  clear hN
  obtain ⟨z, hz⟩ : ∃ z, (checkC ls).isEmpty = z := ⟨_, rfl⟩
  have hz' := Lib.hid hz
  have hus := Lib.hid (fun W (k : Keeps (fun _ => False) w W) => isUsable_c _ ls z W (Lib.hid (hv.out.keep k)) hr hz')
  clear hz
  go_enter Tryz.func15, Tryz.ntmps15
  go_wp2_with fail
  refine (hus.out _ ((Keeps.refl _ _).alloc _)).mono ?_
  rintro e w1 ⟨rfl, hk1⟩
  have hB1 := Lib.hid ((BlkAt.new w 45 (setVals noSet)).keep hk1 id)
  have hk1' : Hid (Keeps (fun _ => False) w w1) := Lib.hid (((Keeps.refl _ _).alloc _).trans hk1)
  obtain ⟨b4, hb4⟩ : ∃ b, w.heap.size = b := ⟨_, rfl⟩
  rw [hb4] at hB1 ⊢
  have hb4' := Lib.hid hb4
  clear hus hk1 hb4
  cases z with
  | false =>
    have hRR : R = (noSet, 7) := by rw [← hR'.out]; unfold setRes; rw [hz'.out, if_pos rfl]
    subst hRR
    have hth := Lib.hid (hB1.out.there 0 10 (Nat.le_refl _))
    go_wp2_with ((with_reducible refine at_store 4 ?_); refine wpList_store_blk rfl 45 (.tmp 4) (.tmp 9) rfl b4 (setVals noSet).toArray rfl rfl hth.out setInfo (setVals_one _) ?_; intro w2 hr2 hk2)
    refine bodyPost_ret (ret_cell_tmp rfl _ w2 b4 _ _ rfl hr2.out Tryz.underlying45 rfl setInfo) rfl ⟨rfl, hk1'.out.trans' hk2.out (fun i e => .inr (by rw [e, hb4'.out]; exact Nat.le_refl _))⟩
  | true =>
    have hn := Lib.hid (names_all _ ls 2 w1 (Lib.hid (hv.out.keep hk1'.out)) hr)
    obtain ⟨y, hy⟩ : ∃ y, (namesA 2 ls).contains n = y := ⟨_, rfl⟩
    have hy' := Lib.hid hy
    clear hy
    go_wp2_with fail
    refine hn.out.mono ?_
    rintro e w2 ⟨pn, cn, rfl, hS2, hk2⟩
    have hk2' := Lib.hid (hk1'.out.trans hk2)
    have hB2 := Lib.hid (hB1.out.keep hk2 id)
    have hct := Lib.hid (slicesContains_any _ (namesA 2 ls) N y w2 hS2 (by have h1 := namesA_len 2 ls; have h2 := right_len hr.out; omega) (Lib.hid (by rw [← hN'.out]; exact hy'.out)))
    clear hn hS2 hk2 hk1' hB1
    go_wp2_with fail
    refine hct.out.mono ?_
    rintro e w3 ⟨rfl, rfl⟩
    clear hct
    cases y with
    | false =>
      have hRR : R = (noSet, 6) := by rw [← hR'.out]; unfold setRes; rw [hz'.out, if_neg (by decide), hy'.out, if_pos rfl]
      subst hRR
      have hth := Lib.hid (hB2.out.there 0 10 (Nat.le_refl _))
      go_wp2_with ((with_reducible refine at_store 4 ?_); refine wpList_store_blk rfl 45 (.tmp 4) (.tmp 15) rfl b4 (setVals noSet).toArray rfl rfl hth.out setInfo (setVals_one _) ?_; intro w4 hr4 hk4)
      refine bodyPost_ret (ret_cell_tmp rfl _ w4 b4 _ _ rfl hr4.out Tryz.underlying45 rfl setInfo) rfl ⟨rfl, hk2'.out.trans' hk4.out (fun i e => .inr (by rw [e, hb4'.out]; exact Nat.le_refl _))⟩
    | true =>
      have hRR : R = (setD ls n, 0) := by rw [← hR'.out]; unfold setRes; rw [hz'.out, if_neg (by decide), hy'.out, if_neg (by decide)]
      subst hRR
      have h0 : 0 < ls.length := by
        have h1 := hy'.out
        rw [List.contains_iff_mem] at h1
        have h2 := namesA_len 2 ls
        have h3 := List.length_pos_of_mem h1
        omega
      have hst := Lib.hid (settings_any _ ls n w2 (Lib.hid (hv.out.keep hk2'.out)) hr h0)
      unfold strv at hst
      rw [hN'.out] at hst
      go_wp2_with fail
      refine hst.out.mono ?_
      rintro e w4 ⟨rfl, hk4⟩
      have hk4' := Lib.hid (hk2'.out.trans hk4)
      have hB4 := Lib.hid (hB2.out.keep hk4 id)
      have hth := Lib.hid (hB4.out.there 0 10 (Nat.le_refl _))
      clear hst hk4 hB2 hk2'
      go_wp2_with ((with_reducible refine at_store 4 ?_); refine wpList_store_blk rfl 45 (.tmp 4) (.tmp 18) rfl b4 (setVals (setD ls n)).toArray rfl rfl hth.out setInfo (setVals_one _) ?_; intro w5 hr5 hk5)
      refine bodyPost_ret (ret_cell_tmp rfl _ w5 b4 _ _ rfl hr5.out Tryz.underlying45 rfl setInfo) rfl ⟨rfl, hk4'.out.trans' hk5.out (fun i e => .inr (by rw [e, hb4'.out]; exact Nat.le_refl _))⟩
end Go.Proofs.YtialookpnoaogaaGreat
