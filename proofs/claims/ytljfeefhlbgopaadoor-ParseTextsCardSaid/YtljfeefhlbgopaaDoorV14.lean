/- Lines compared: the document's Same, walked. -/
import Derived.Test.YtljfeefhlbgopaaDoorV13
import Derived.Test.YtljfeefhlbgopaaDoorRows
import Derived.Test.YtljfeefhlbgopaaDoorTie
import Derived.Test.YtljfeefhlbgopaaDoorCards
import Derived.ProofKit
import Derived.OpenShut
import Derived.ShutString
import Derived.ChangeOld
import Derived.LaidMore
import Derived.Stop.Joined
import Derived.SevenTiedAt
import Derived.Lib.LaidTab
set_option linter.unusedVariables false
set_option linter.unusedSimpArgs false
set_option linter.unusedVariables false
set_option linter.unusedSimpArgs false
namespace Go.Proofs.YtljfeefhlbgopaaDoor
open Go.RowKit

theorem line_neq (W : World) (h1 h2 : Int) (n1 f1 v1 n2 f2 v2 : ByteArray) (z : Bool) (hz : (z = false) ↔ (h1 = h2 ∧ n1.toList = n2.toList ∧ f1.toList = f2.toList ∧ v1.toList = v2.toList)) :
    (binOp .neq 37 (.agg #[.int .i64 h1, .string n1, .string f1, .string v1]) (.agg #[.int .i64 h2, .string n2, .string f2, .string v2])).run Tryd.prog W = .ok (.bool z) W := by
  by_cases e1 : h1 = h2
  · subst e1
    by_cases e2 : n1.toList = n2.toList
    · by_cases e3 : f1.toList = f2.toList
      · by_cases e4 : v1.toList = v2.toList
        · obtain rfl : z = false := hz.2 ⟨rfl, e2, e3, e4⟩
          go_simp
        · obtain rfl : z = true := by cases z with | true => rfl | false => exact absurd (hz.1 rfl).2.2.2 e4
          go_simp
      · obtain rfl : z = true := by cases z with | true => rfl | false => exact absurd (hz.1 rfl).2.2.1 e3
        go_simp
    · obtain rfl : z = true := by cases z with | true => rfl | false => exact absurd (hz.1 rfl).2.1 e2
      go_simp
  · obtain rfl : z = true := by cases z with | true => rfl | false => exact absurd (hz.1 rfl).1 e1
    go_simp
theorem guardLine5 (op : BinOp) (x y : Operand) (xs ys : Array Value) (w : World) : (eqGuard op 37 x y (.agg xs) (.agg ys)).run Tryd.prog w = .ok () w := run_eqGuard_agg w op 37 x y xs ys (by kernel_rfl)
set_option maxRecDepth 100000 in
set_option maxHeartbeats 4000000 in
theorem rSame_c (v u : Value) (xs ys : List LineD) (z : Bool) (w : World) (hv : Hid (RowsAt 4 lineVals w v xs)) (hu : Hid (RowsAt 4 lineVals w u ys)) (hl : xs.length ≤ 1000000) (hl2 : ys.length ≤ 1000000) (hz : Hid ((z = true) ↔ xs = ys)) :
    Calls Tryd.prog 8 #[v, u] w (NewRes (.bool z) w) := by
  obtain ⟨p, c, rfl⟩ := hv.out.slice
  obtain ⟨p2, c2, rfl⟩ := hu.out.slice
  by_cases hlen : xs.length = ys.length
  · have hlen' := Lib.hid hlen
    have hne : ((xs.length : Int) != ys.length) = false := by simp [hlen]
    clear hlen
    go_enter Tryd.func8, Tryd.ntmps8
    go_wp2_with fail
    go_loopw [5] (fun iv wr => ∃ (k : Nat), k ≤ xs.length ∧ iv = .int .i64 k ∧ Hid (xs.take k = ys.take k) ∧ Hid (Keeps (fun _ => False) w wr)) (fun iv _ => xs.length - (intOf iv).toNat)
    case atStart => exact ⟨0, by omega, rfl, Lib.hid rfl, Lib.hid (Keeps.refl _ _)⟩
    case round =>
      obtain ⟨k, hk, rfl, hT, hKw⟩ := hrel
      by_cases hlk : k < xs.length
      · have hlk2 : k < ys.length := by have := hlen'.out; omega
        obtain ⟨g, o, rfl, hrows⟩ := hv.out.open (by omega)
        obtain ⟨g2, o2, rfl, hrows2⟩ := hu.out.open (by omega)
        obtain ⟨x, hx⟩ : ∃ q, xs[k]? = some q := ⟨_, List.getElem?_eq_getElem hlk⟩
        obtain ⟨y, hy⟩ : ∃ q, ys[k]? = some q := ⟨_, List.getElem?_eq_getElem hlk2⟩
        obtain ⟨Nx, hN⟩ : ∃ N : ByteArray, N = ⟨x.name.toArray⟩ := ⟨_, rfl⟩
        obtain ⟨Fx, hF⟩ : ∃ N : ByteArray, N = ⟨x.leaf.toArray⟩ := ⟨_, rfl⟩
        obtain ⟨Vx, hV⟩ : ∃ N : ByteArray, N = ⟨x.value.toArray⟩ := ⟨_, rfl⟩
        obtain ⟨Ny, hN2⟩ : ∃ N : ByteArray, N = ⟨y.name.toArray⟩ := ⟨_, rfl⟩
        obtain ⟨Fy, hF2⟩ : ∃ N : ByteArray, N = ⟨y.leaf.toArray⟩ := ⟨_, rfl⟩
        obtain ⟨Vy, hV2⟩ : ∃ N : ByteArray, N = ⟨y.value.toArray⟩ := ⟨_, rfl⟩
        have hrow : Hid (wr.rangeAt g (o + k * 4) [.int .i64 x.head, .string Nx, .string Fx, .string Vx]) := Lib.hid (by rw [hN, hF, hV]; exact hKw.out.rangeAt (hrows k x hx) id)
        have hrow2 : Hid (wr.rangeAt g2 (o2 + k * 4) [.int .i64 y.head, .string Ny, .string Fy, .string Vy]) := Lib.hid (by rw [hN2, hF2, hV2]; exact hKw.out.rangeAt (hrows2 k y hy) id)
        obtain ⟨zz, hzz⟩ : ∃ b : Bool, (b = false) ↔ x = y := by
          by_cases e : x = y
          · exact ⟨false, by simp [e]⟩
          · exact ⟨true, by simp [e]⟩
        have hzz2 : Hid ((zz = false) ↔ (x.head = y.head ∧ Nx.toList = Ny.toList ∧ Fx.toList = Fy.toList ∧ Vx.toList = Vy.toList)) := Lib.hid (by
          rw [hzz]
          simp only [Lib.toList_data, hN, hF, hV, hN2, hF2, hV2]
          constructor
          · rintro rfl; exact ⟨rfl, rfl, rfl, rfl⟩
          · rintro ⟨a1, a2, a3, a4⟩
            cases x; cases y; simp at a1 a2 a3 a4; simp [a1, a2, a3, a4])
        have hx' := Lib.hid hx; have hy' := Lib.hid hy; have hzz' := Lib.hid hzz
        have m1 : (0 : Int) ≤ (k : Int) := by omega
        have m2 : (k : Int) < (xs.length : Int) := by omega
        have m3 : (k : Int) < (ys.length : Int) := by omega
        clear hrows hrows2 hN hF hV hN2 hF2 hV2 hx hy hzz
        go_upto_region 6 with fail
        refine wp_region_noPanic ?_
        refine wp_region_held_drew (S := (fun W => Keeps (fun _ => False) wr W)) (by kernel_rfl) (((Keeps.refl _ _).drew)) (fun hHeld => ?_)
        refine tk 0 rfl ?_
        refine tk 1 rfl ?_
        refine tk 2 rfl ?_
        refine tkL 3 rfl (yieldsIf_load_mid (by rfl) 37 (.tmp 19) rfl g (o + k * 4) rfl [.int .i64 x.head, .string Nx, .string Fx, .string Vx] _ (fun _ s => s.rangeAt hrow.out id) Tryd.underlying37 rfl line5InfoG) ?_
        refine tk 4 rfl ?_
        refine tk 5 rfl ?_
        refine tk 6 rfl ?_
        refine tkL 7 rfl (yieldsIf_load_mid (by rfl) 37 (.tmp 23) rfl g2 (o2 + k * 4) rfl [.int .i64 y.head, .string Ny, .string Fy, .string Vy] _ (fun _ s => s.rangeAt hrow2.out id) Tryd.underlying37 rfl line5InfoG) ?_
        refine tk 8 (v := .bool zz) (hy := fun wS hSw => by
          have hl := line_neq wS x.head y.head Nx Fx Vx Ny Fy Vy zz hzz2.out
          unfold execOp
          simp only [Act.eval, Array.getD_eq_getD_getElem?, List.getElem?_toArray, List.getElem?_cons_zero, List.getElem?_cons_succ, Option.getD_some, Sem.run_bind, Sem.run_pure, Result.andThen_ok, guardLine5, hl]) rfl ?_
        refine wpAnyH_done (by kernel_rfl) (NoPanic.normal ?_) _
        have hKz := Lib.hid (hKw.out.trans hHeld)
        clear hHeld
        cases zz with
        | true =>
          have hzf : Hid (z = false) := Lib.hid (by
            cases z with
            | false => rfl
            | true =>
              have e := hz.out.1 rfl
              have h1 := hx'.out; rw [e, hy'.out] at h1
              injection h1 with h1
              exact absurd (hzz'.out.2 h1.symm) (by decide))
          go_wp2_with fail
          go_ret
          exact ⟨by rw [hzf.out]; rfl, hKz.out⟩
        | false =>
          have exy : x = y := hzz'.out.1 rfl
          have hT2 : Hid (xs.take (k + 1) = ys.take (k + 1)) := Lib.hid (by
            obtain ⟨a1, a2⟩ := List.getElem?_eq_some_iff.1 hx'.out
            obtain ⟨b1, b2⟩ := List.getElem?_eq_some_iff.1 hy'.out
            rw [List.take_succ_eq_append_getElem a1, List.take_succ_eq_append_getElem b1, a2, b2, hT.out, exy])
          clear exy
          go_wp2_with fail
          exact ⟨⟨k + 1, by omega, by go_num, hT2, hKz⟩, by simp [intOf]; omega⟩
      · obtain rfl : k = xs.length := by omega
        have hzt : Hid (z = true) := Lib.hid (hz.out.2 (by
          have e := hT.out
          rw [List.take_length, List.take_of_length_le (by rw [hlen'.out]; exact Nat.le_refl _)] at e
          exact e))
        go_wp2_with fail
        go_ret
        exact ⟨by rw [hzt.out]; rfl, hKw.out⟩
  · have hne : ((xs.length : Int) != ys.length) = true := by simp; omega
    have hzf : Hid (z = false) := Lib.hid (by
      cases z with
      | false => rfl
      | true => exact absurd (congrArg List.length (hz.out.1 rfl)) hlen)
    clear hlen
    go_enter Tryd.func8, Tryd.ntmps8
    go_wp2_with fail
    go_ret
    exact ⟨by rw [hzf.out]; rfl, Keeps.refl _ _⟩
end Go.Proofs.YtljfeefhlbgopaaDoor
/- ParseTexts, walked. -/
set_option linter.unusedVariables false
set_option linter.unusedSimpArgs false
namespace Go.Proofs.YtljfeefhlbgopaaDoor
open Go.RowKit

theorem textD_right : ∀ (n : Nat) (o : Option (Int × List UInt8)) (ws : List (List UInt8)) (s s' : StP), ws.length ≤ n → rightC s.1 = true → textD o ws s = some s' → rightC s'.1 = true := by
  intro n
  induction n with
  | zero =>
    intro o ws s s' hn hs h
    obtain rfl : ws = [] := List.length_eq_zero_iff.1 (by omega)
    rw [textD.eq_def] at h
    simp only [] at h
    split at h
    · cases h
    · injection h with h; rw [← h]; exact hs
  | succ n ih =>
    intro o ws s s' hn hs h
    match ws, hn with
    | [], _ =>
      rw [textD.eq_def] at h
      simp only [] at h
      split at h
      · cases h
      · injection h with h; rw [← h]; exact hs
    | a :: r, hn =>
      simp only [List.length_cons] at hn
      rw [textD.eq_def] at h
      simp only [] at h
      split at h
      · exact ih _ _ _ _ (by omega) hs h
      · match r, hn with
        | [], _ => cases h
        | [_], _ => cases h
        | b :: c :: r2, hn =>
          simp only [List.length_cons] at hn
          simp only [] at h
          split at h
          · split at h
            · exact ih _ _ _ _ (by omega) hs h
            · cases h
          · split at h
            · split at h
              · rename_i hl
                exact ih _ _ _ _ (by omega) (putS_right hs hl) h
              · cases h
            · cases h
theorem ansT_right (t : List UInt8) : rightC (ansT t).1 = true := by
  unfold ansT
  split
  · decide +kernel
  · split
    · decide +kernel
    · rename_i C f h
      have := textD_right _ _ _ _ _ (Nat.le_refl _) (by decide +kernel) h
      split
      · decide +kernel
      · exact this
set_option maxRecDepth 100000 in
set_option maxHeartbeats 4000000 in
theorem parseTexts_law (s : ByteArray) (w : World) (hs : s.size ≤ 9223372036854775807) (ht : Hid (VerbsOk w)) :
    Calls Tryd.prog 3 #[.string s] w (lawEnd w) := by
  by_cases h : s.size ≤ 4000
  all_goals
    go_enter Tryd.func3, Tryd.ntmps3
    go_wp2_with fail
    first
      | (obtain ⟨x, hx⟩ : ∃ x : ByteArray, x = s.extract 0 4000 := ⟨_, rfl⟩
         have hxs : x.size ≤ 4000 := by rw [hx]; exact cut_size s 4000
         rw [← hx])
      | (obtain ⟨x, hx⟩ : ∃ x : ByteArray, x = s := ⟨_, rfl⟩
         have hxs : x.size ≤ 4000 := by rw [hx]; exact h
         rw [← hx])
    have hx' := Lib.hid hx; clear hx h
    obtain ⟨R, ee, hans⟩ : ∃ R ee, ansT x.data.toList = (R, ee) := ⟨_, _, rfl⟩
    have hlen : R.length ≤ 64 := by have := right_len (ansT_right x.data.toList); rw [hans] at this; exact this
    have hans' := Lib.hid hans
    clear hans
    refine (pText_any x _ (by omega)).mono ?_
    rintro e w1 hp1
    rw [hans'.out] at hp1
    obtain ⟨p1, c1, rfl, hR1, k1⟩ := hp1
    simp only at hR1 ⊢
    have hR1' := Lib.hid hR1
    have hk1 := Lib.hid k1
    clear k1 hR1
    go_wp2_with fail
    refine (rText6_any x _ (by omega)).mono ?_
    rintro e w2 hp2
    rw [hans'.out] at hp2
    obtain ⟨p2, c2, rfl, hR2, k2⟩ := hp2
    simp only at hR2 ⊢
    have hR2' := Lib.hid hR2
    have hR12 := Lib.hid (hR1'.out.keep k2)
    have hk2 := Lib.hid (hk1.out.trans k2)
    have ht2 := Lib.hid (ht.out.keep hk2.out)
    clear k2 hR2 hR1' hk1 hans'
    go_wp2_with fail
    refine (reads6_any _ ht2).mono ?_
    rintro e w3 ⟨rfl, k3⟩
    have hR13 := Lib.hid (hR12.out.keep k3)
    have hR23 := Lib.hid (hR2'.out.keep k3)
    have hk3 := Lib.hid (hk2.out.trans k3)
    clear k3 hR12 hR2' hk2 ht2
    go_wp2_with fail
    refine (from_any _ R _ hR13 (by omega)).mono ?_
    rintro e w4 ⟨p4, c4, rfl, hO4, k4⟩
    have hR4 := Lib.hid (hO4.at lineVals_len)
    have hR24 := Lib.hid (hR23.out.keep k4)
    have hk4 := Lib.hid (hk3.out.trans k4)
    clear k4 hO4 hR13 hR23 hk3
    go_wp2_with fail
    refine (rSame_c _ _ R R true _ hR4 hR24 (by omega) (by omega) (Lib.hid ⟨fun _ => rfl, fun _ => rfl⟩)).mono ?_
    rintro e w5 ⟨rfl, k5⟩
    have hk5 := Lib.hid (hk4.out.trans k5)
    clear k5 hk4 hR4 hR24
    go_wp2_with fail
    go_ret
    exact lawEnd.mk hk5.out
end Go.Proofs.YtljfeefhlbgopaaDoor
/- ParseTexts, proved: of all texts the configuration is told, or why it isn't; for every input. Its card lists the words of commands as the code's text lays them. -/
namespace Go.Proofs.YtljfeefhlbgopaaDoor
open Go.ChangeShapes Go.WideShapes Go.ChangeAt Go.RowKit Go.WideMaps
open Go.ChangeMaps (open_string)
/-- an array of texts that reads as these texts holds them, cell for cell -/
theorem strs_of_laid {H : Type} {enc : TypeId × Value → H} {P : Program} {w : World} {base : Nat} {sp : Nat → Bool} {held : Bool} {fuel : Nat} {t e : TypeId} {n : Nat} {cs : List Value} {ls : List (List UInt8)} {p : List MemPlace}
    (ht : P.underlying t = some (.array n e)) (he : P.underlying e = some .string) (hce : P.cellsOf e = 1) (hct : P.cellsOf t = n)
    (h : DataW.trod enc P w base sp held fuel t cs = some (.agg (ls.map fun l => .lit (.string l)), p)) : cs = ls.map strv := by
  cases fuel with
  | zero => simp [DataW.trod] at h
  | succ fuel =>
    simp only [DataW.trod, ht, hce, hct, Nat.mul_one] at h
    split at h
    · rename_i hl
      obtain ⟨xs, hm, hx⟩ := Option.map_eq_some_iff.1 h
      have hxs : xs.map (·.1) = ls.map fun l => (DataW.lit (.string l) : DataW H) := by
        have := congrArg Prod.fst hx
        simpa using this
      have hxl : xs.length = n := by simpa using Lib.mapM_length hm
      have hzl : ls.length = n := by
        have := congrArg List.length hxs
        simp at this
        omega
      apply List.ext_getElem?
      intro i
      by_cases hi : i < n
      · obtain ⟨b, hb, hf⟩ := Lib.mapM_at hm i i (by simp [hi])
        obtain ⟨z, hc, rfl, _⟩ := DataW.trod_string he hf
        have h1 : cs[i]? = some (.string z) := by
          have := congrArg (·[0]?) hc
          simpa [List.getElem?_take, List.getElem?_drop] using this
        have h2 : (xs.map (·.1))[i]? = some (DataW.lit (.string z.data.toList) : DataW H) := by simp [hb]
        rw [hxs] at h2
        simp only [List.getElem?_map, Option.map_eq_some_iff, DataW.lit.injEq, Lit.string.injEq] at h2
        obtain ⟨z', hz', e'⟩ := h2
        rw [h1, List.getElem?_map, hz', e']
        rfl
      · rw [List.getElem?_eq_none (by omega), List.getElem?_eq_none (by simp; omega)]
    · cases h
namespace parseTextsProof
theorem own : ownKnob Tryd.prog.godebug = none := by kernel_rfl
theorem laidOut : laidOutB Tryd.prog = true := by kernel_rfl
def laid3 : List (String × DataW Unit) := Rows.parseTextsRow.laid
theorem door_met (os : Os) (args : Array Value) : laidMetH Tryd.prog laid3 ((World.doorLaid Tryd.prog 4000 os).forCall (fun _ _ => 0) ⟨#[], args, []⟩).memory := by
  rw [MakeChecks.laidMetH_plain _ _ _ (by kernel_rfl)]
  exact laidMet_of_run' 8 (by kernel_rfl) (by kernel_rfl)
theorem verbs_of {W : World} (h : laidMetH Tryd.prog laid3 W) : VerbsOk W := by
  rw [MakeChecks.laidMetH_plain _ _ _ (by kernel_rfl)] at h
  obtain ⟨ps, ⟨g0, t0, cs0, f0, p0, q0, hg0, ht0, hv0, hd0, _, _⟩, _, _⟩ := h
  have hN : Tryd.prog.globalNamed "waystone/parse.verbs" = some 0 := by kernel_rfl
  have hT : (Tryd.prog.globals[(0 : Nat)]?).map (·.type) = some 92 := by kernel_rfl
  obtain rfl := Option.some.inj (hN.symm.trans hg0)
  obtain rfl := Option.some.inj (hT.symm.trans ht0)
  have e2 : (Rows.laid_waystone_parse_verbs : DataW Unit) = .agg (verbsL.map fun l => .lit (.string l)) := by kernel_rfl
  rw [e2] at hd0
  have hcs := strs_of_laid Tryd.underlying92 Tryd.underlying9 (by kernel_rfl) (by kernel_rfl) hd0
  intro j v hv
  rw [World.var?_cell hN hv0, Nat.zero_add, ← Array.getElem?_toList, hcs]
  exact hv
set_option maxRecDepth 100000 in
theorem lifted (os : Os) (started : os.Started) (H : Type) (enc : TypeId × Value → H) :
    ReturnsInHanded {} Tryd.checked os 3 .any (fun w args => (Rows.parseTextsSpec.pre enc Tryd.prog Tryd.f3 [] false w args ∧ laidMetH Tryd.prog laid3 w) ∧ sizedMet enc Tryd.prog Tryd.f3 (OpenSpec.ofChange Rows.parseTextsSpec) false w args)
      (Rows.parseTextsSpec.post enc Tryd.prog Tryd.f3 false true false false) := by
  refine returnsInHanded_of_change_and (C := Tryd.checked) (X := fun w _ => laidMetH Tryd.prog laid3 w) (fun _ _ _ hh h => h.of_heap hh) own started (by kernel_rfl) Tryd.func3
    (ChangeSpec.witness_shaped (enc := enc) (C := Tryd.checked) (os := os) (X := fun w _ => laidMetH Tryd.prog laid3 w) false (World.doorLaid Tryd.prog 4000 os) #[.string ByteArray.empty] 8 rfl (World.shaped_of_RefB (by kernel_rfl) (by kernel_rfl)) (by kernel_rfl) (by kernel_rfl) (by kernel_rfl) (door_met os _)) ?_
  intro W base args ds gs before hval0 hW _ _ hL _
  have hval : ∀ (j : Nat) t v, Tryd.f3.params[j]? = some t → args[j]? = some v → Value.okWide Tryd.prog W .any base t v := hval0
  have hW' := hW
  obtain ⟨p, q, hA0, hV, rfl, hfz, hnd⟩ := hW
  have hA : DataW.TrodAll enc Tryd.prog W 0 (fun _ => true) true Tryd.f3.params.toList args.toList ds p := hA0
  rw [Tryd.params3] at hA hval
  obtain ⟨v0, vs0, d0, ds0, p0, q0, hargs, rfl, rfl, h0, r0⟩ := trodAll_cons hA
  obtain ⟨rfl, rfl, rfl⟩ := trodAll_nil r0
  obtain rfl : args = #[v0] := by cases args; simp_all
  obtain ⟨rfl, rfl⟩ := trodVars_none hV
  have k0 := h0
  obtain ⟨a0, rfl, rfl, rfl, w0⟩ := open_string Tryd.underlying9 (hval 0 9 v0 rfl rfl) h0
  have b0 : a0.size ≤ 9223372036854775807 := by unfold maxLen at w0; exact w0
  have ht := Lib.hid (verbs_of hL)
  clear hA0 hval0
  simp only [List.append_nil] at hW'
  refine (parseTexts_law a0 W b0 ht).mono fun e W' ⟨he, bel⟩ => ?_
  subst he
  exact ⟨_, rfl, _, _, _, [], [], [], hW', trodAll_mk1 (shut_bool Tryd.underlying4 _), (trodAll_cons_mk (Below.trod laidOut (by kernel_rfl) (of_decide_eq_true (by kernel_rfl)) k0 bel (fun x hx => by cases hx)) trodAll_mk0), rfl, bel.frame _, fun h => by cases h⟩
theorem over : Rows.parseTextsRow.holds Tryd.pinned (OpenSpec.ofChange Rows.parseTextsSpec) :=
  OpenClaim.holds_of_wide 3 Tryd.f3 rfl rfl rfl rfl rfl rfl rfl ⟨rfl, rfl, rfl, rfl, rfl⟩ rfl rfl rfl rfl rfl (by kernel_rfl) Tryd.func3 (by kernel_rfl)
    (of_decide_eq_true (by kernel_rfl)) (by unfold Func.isWrapper; first | (rw [if_pos (by decide +kernel)]; kernel_rfl) | (rw [if_neg (by decide +kernel)]; exact ⟨rfl, rfl⟩))
    (fun os started H enc _ => lifted os started H enc)
end parseTextsProof
theorem parseTexts_holds : Rows.ParseTextsCardSaid :=
  Claim7.holds_tied_plain_at .later [] [.data] true (true, "33f86c9207a1d2f41ad96c38ae52b6d50d350da286d7b892a9f5355784c83f41") false
    parseTextsProof.over (fun _ h => by cases h) (by kernel_rfl) (fun _ h => by cases h) parseTexts_row_tie rfl ⟨rfl, rfl⟩ (by kernel_rfl) rfl
    (fun f fn hf hfn => by
      obtain rfl : f = 3 := Option.some.inj ((show Tryd.prog.funcNamed "waystone/waystonelaw06.ParseTexts" = some 3 by kernel_rfl).symm.trans hf) |>.symm
      obtain rfl : fn = Tryd.f3 := (Option.some.inj (Tryd.func3.symm.trans hfn)).symm
      exact ⟨by kernel_rfl, fun j t ht => by
        rw [Tryd.params3] at ht
        match j, ht with
        | 0, ht => (obtain rfl : t = 9 := by simpa using ht.symm); exact (show Tryd.prog.wantsStandIn 9 = false by kernel_rfl)
        | j + 1, ht => simp at ht⟩)
    (by kernel_rfl)
end Go.Proofs.YtljfeefhlbgopaaDoor
