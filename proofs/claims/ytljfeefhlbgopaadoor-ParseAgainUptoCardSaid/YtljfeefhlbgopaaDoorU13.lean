/- The document's Text of layer 6, walked (gen_ztf.py). -/
import Derived.Test.YtljfeefhlbgopaaDoorU12
import Derived.Deep.DeepCutAuto
set_option linter.unusedVariables false
set_option linter.unusedSimpArgs false
set_option linter.unusedVariables false
set_option linter.unusedSimpArgs false
namespace Go.Proofs.YtljfeefhlbgopaaDoor
open Go.RowKit

theorem textD_k3 {o : Option (Int × List UInt8)} {a b : List UInt8} {r2 : List (List UInt8)} {s : StP} (h1 : ¬ (o.isSome ∧ a = clsW)) (ha : signW a = false) (hb : signW b = false) : textD o (a :: b :: endW :: r2) s = if lineB (atL o a b) = true then textD o r2 (putS s (atL o a b)) else none := by
  rw [textD.eq_def]
  simp only []
  rw [if_neg h1, if_neg (fun h => by have := h.2.2; revert this; decide), if_pos ⟨ha, hb, trivial⟩]
theorem textD_k4 {o : Option (Int × List UInt8)} {a : List UInt8} {r : List (List UInt8)} {s : StP} (h1 : ¬ (o.isSome ∧ a = clsW)) (h2 : ¬ ∃ b r2, r = b :: opnW :: r2 ∧ o = none ∧ headD a ≠ 0)
    (h3 : ¬ ∃ b r2, r = b :: endW :: r2 ∧ signW a = false ∧ signW b = false) : textD o (a :: r) s = none := by
  rw [textD.eq_def]
  simp only []
  rw [if_neg h1]
  match r with
  | [] => rfl
  | [b] => rfl
  | b :: c :: r2 =>
    simp only []
    rw [if_neg (fun h => h2 ⟨b, r2, by rw [h.2.2], by simpa using h.1, h.2.1⟩), if_neg (fun h => h3 ⟨b, r2, by rw [h.2.2], h.1, h.2.1⟩)]
theorem headD_012 (w : List UInt8) : headD w = 0 ∨ headD w = 1 ∨ headD w = 2 := by
  unfold headD
  split
  · exact .inr (.inl rfl)
  · split
    · exact .inr (.inr rfl)
    · exact .inl rfl
def IffB (z : Bool) (P : Prop) : Prop := (z = true) ↔ P
/-- the document's state: what has been set, what is open -/
structure RtS (gA : Nat) (w0 W : World) (h : Int) (Nm : ByteArray) (q : Option Addr) (d : Nat) (o : Option (Int × List UInt8)) (C : List LineD) : Prop where
  blk : BlkAt W gA 37 [.int .i64 h, .string Nm, .string ⟨#[]⟩, .string ⟨#[]⟩]
  att : ∀ a b, atL o a b = ⟨h, Nm.data.toList, a, b⟩
  nms : Nm.size ≤ 1000000
  rows : RowsAt 4 lineVals W (.slice q C.length d) C
  own : ∀ k, (Value.slice q C.length d).ownBlock = some k → k ≠ gA
  right : rightC C = true
  k : Keeps (fun _ => False) w0 W
  ge : w0.heap.size ≤ gA
theorem RtS.next {gA : Nat} {w0 W W' : World} {h : Int} {Nm : ByteArray} {q : Option Addr} {d : Nat} {o : Option (Int × List UInt8)} {C : List LineD} (s : RtS gA w0 W h Nm q d o C) (k : Keeps (fun _ => False) W W') : RtS gA w0 W' h Nm q d o C :=
  ⟨s.blk.keep k id, s.att, s.nms, s.rows.keep k, s.own, s.right, s.k.trans k, s.ge⟩
/-- another one is open -/
theorem RtS.turn {gA : Nat} {w0 W W' : World} {h h2 : Int} {Nm Nm2 : ByteArray} {q : Option Addr} {d : Nat} {o o2 : Option (Int × List UInt8)} {C : List LineD} (s : RtS gA w0 W h Nm q d o C) (k : Keeps (fun i => i = gA) W W')
    (hb : BlkAt W' gA 37 [.int .i64 h2, .string Nm2, .string ⟨#[]⟩, .string ⟨#[]⟩]) (ha : ∀ a b, atL o2 a b = ⟨h2, Nm2.data.toList, a, b⟩) (hn : Nm2.size ≤ 1000000) : RtS gA w0 W' h2 Nm2 q d o2 C :=
  ⟨hb, ha, hn, s.rows.keepF k (fun _ k e f => s.own k e f), s.own, s.right, s.k.trans' k (fun i e => .inr (by rw [e]; exact s.ge)), s.ge⟩
theorem setCells_blk {W : World} {g : Nat} {t : TypeId} {a b c d a2 b2 c2 d2 : Value} (h : BlkAt W g t [a, b, c, d]) : BlkAt (W.setCells g 0 [a2, b2, c2, d2]) g t [a2, b2, c2, d2] := by
  have h0 := (((h.set 0 a2).set 1 b2).set 2 c2).set 3 d2
  exact h0

set_option maxRecDepth 100000 in
set_option maxHeartbeats 16000000 in
theorem rText6_any (s : ByteArray) (w : World) (hs : s.size ≤ 1000000) : Calls Tryd.prog 6 #[.string s] w (TextRes (ansT s.data.toList) w) := by
  cases hL : lexL s.data.toList with
  | bad m =>
    have hans := Lib.hid (ansT_bad hL)
    have hL' := Lib.hid hL
    clear hL
    go_enter Tryd.func6, Tryd.ntmps6
    go_wp2_with fail
    refine (rWords_bad s m _ (by omega) hL').mono ?_
    rintro e w1 ⟨⟨p, c, n, rfl⟩, k1⟩
    have hk1 := Lib.hid k1
    clear k1 hL'
    go_wp2_with fail
    go_ret2
    rw [hans.out]
    exact ⟨none, 0, rfl, RowsAt.nil _, hk1.out⟩
  | ok ws =>
    have hbd := lexL_bounds hL
    have hsz : s.data.toList.length = s.size := rfl
    have hwl : ws.length ≤ 1000000 := by omega
    have hsm : Hid (∀ x ∈ ws, x.length ≤ 1000000) := Lib.hid (fun x hx => by have := hbd.2 x hx; omega)
    have hL' := Lib.hid hL
    clear hL hbd hsz
    go_enter Tryd.func6, Tryd.ntmps6
    go_wp2_with fail
    refine (rWords_ok s ws _ (by omega) hL').mono ?_
    rintro e w1 ⟨p, c, rfl, hO1, k1⟩
    have hk1 := Lib.hid k1
    have hWs := Lib.hid hO1.c
    have hS0 : Hid (RtS w1.heap.size w1 (w1.alloc (.cells #[.int .i64 0, .string ⟨#[]⟩, .string ⟨#[]⟩, .string ⟨#[]⟩] 37)) 0 ⟨#[]⟩ none 0 none []) := Lib.hid
      ⟨BlkAt.new _ _ _, fun a b => rfl, by decide, RowsAt.nil _, fun k e => by simp [Value.ownBlock] at e, by decide +kernel, (Keeps.refl _ _).alloc _, Nat.le_refl _⟩
    clear k1 hO1
    go_upto_region 6 with ((with_reducible refine at_store 8 ?_); refine wpList_store_new rfl 37 (.tmp 8) (.tmp 23) rfl _ #[.int .i64 0, .string ⟨#[]⟩, .string ⟨#[]⟩, .string ⟨#[]⟩] rfl rfl line5InfoG rfl (line_one _ _ _ _) ?_)
    generalize w1.alloc (.cells #[.int .i64 0, .string ⟨#[]⟩, .string ⟨#[]⟩, .string ⟨#[]⟩] 37) = W2 at hS0 ⊢
    generalize w1.heap.size = gA at hS0 ⊢
    go_wp2_with fail
    go_loopw [11, 7, 9, 10] (fun iv cv ov fv wr => ∃ (i : Nat) (C : List LineD) (q : Option Addr) (d : Nat) (o : Option (Int × List UInt8)) (h : Int) (Nm : ByteArray) (f : Bool), i ≤ ws.length ∧ iv = .int .i64 i ∧ cv = .slice q C.length d ∧ ov = .bool o.isSome ∧ fv = .bool f ∧ Hid (textD none ws ([], false) = textD o (ws.drop i) (C, f)) ∧ Hid (RtS gA w1 wr h Nm q d o C)) (fun iv _ _ _ _ => ws.length - (intOf iv).toNat)
    case atStart => exact ⟨0, [], none, 0, none, 0, ⟨#[]⟩, false, by omega, rfl, rfl, rfl, rfl, Lib.hid rfl, hS0⟩
    case round =>
      obtain ⟨i, C, q, d, o, h, Nm, f, hi, rfl, rfl, rfl, rfl, htx, hSr⟩ := hrel
      by_cases hil : i < ws.length
      · obtain ⟨p9, c9, e9, hcap, hr0⟩ := hWs.out
        injection e9 with e1 e2 e3
        subst e1; subst e3
        obtain ⟨g, o2, rfl, hr⟩ := hr0 (by omega)
        have hrW := Lib.hid (hSr.out.k.rangeAt hr id)
        obtain ⟨a, ha⟩ : ∃ a, ws[i]? = some a := ⟨_, List.getElem?_eq_getElem hil⟩
        obtain ⟨r, hdr⟩ : ∃ r, r = ws.drop (i + 1) := ⟨_, rfl⟩
        have hdrop : ws.drop i = a :: r := by
          rw [hdr, List.drop_eq_getElem_cons hil]
          congr 1
          have := List.getElem?_eq_getElem hil
          rw [this] at ha; injection ha
        obtain ⟨A, hA⟩ : ∃ X : ByteArray, X = ⟨a.toArray⟩ := ⟨_, rfl⟩
        have szA : Hid (a.length ≤ 1000000) := Lib.hid (hsm.out a (List.mem_of_getElem? ha))
        have ca : wr.cell? ⟨g, o2 + i, none⟩ = some (.string A) := by have := word_cell hrW.out i a ha; rw [hA]; exact this
        have hrl : r.length = ws.length - (i + 1) := by rw [hdr, List.length_drop]
        have hAd : Hid (A.data.toList = a) := Lib.hid (by rw [hA])
        have hAc := ba_eq A [125] a hA
        have hi1 : (i : Int) < (ws.length : Int) := by omega
        have hi0 : (0 : Int) ≤ (i : Int) := by omega
        have hdrop' := Lib.hid hdrop
        have hdr' := Lib.hid hdr
        have hrl' := Lib.hid hrl
        have hr' := Lib.hid hr
        clear hr hr0 e2 hcap hA hdrop hdr hrl
        obtain ⟨ob, hob⟩ : ∃ ob, o.isSome = ob := ⟨_, rfl⟩
        rw [hob]
        have hob' := Lib.hid hob
        clear hob
        go_upto_region 11 with fail
        go_cut [28] (fun tv wx => (∃ z : Bool, tv = .bool z ∧ Hid (IffB z (o.isSome ∧ a = clsW))) ∧ wx = wr)
        case first =>
          cases ob with
          | false =>
            have hzz : Hid (IffB false (o.isSome ∧ a = clsW)) := Lib.hid (by unfold IffB; rw [hob'.out]; simp)
            go_wp2_with fail
            go_meet
            case rel => exact ⟨⟨false, rfl, hzz⟩, rfl⟩
          | true =>
            by_cases hac : a = [125]
            · have e2 : (A.toList == [125]) = true := by rw [hAc]; simp [hac]
              have hzz : Hid (IffB true (o.isSome ∧ a = clsW)) := Lib.hid (by unfold IffB; rw [hob'.out]; simp [hac]; rfl)
              clear hac hAc
              go_wp2_with fail
              go_meet
              case rel => exact ⟨⟨true, rfl, hzz⟩, rfl⟩
            · have e2 : (A.toList == [125]) = false := by rw [hAc]; simp [hac]
              have hzz : Hid (IffB false (o.isSome ∧ a = clsW)) := Lib.hid (by unfold IffB; simp; intro _; exact hac)
              clear hac hAc
              go_wp2_with fail
              go_meet
              case rel => exact ⟨⟨false, rfl, hzz⟩, rfl⟩
        case rest =>
          obtain ⟨⟨z1, rfl, hz1⟩, rfl⟩ := hcut
          have hkw := Lib.hid (hk1.out.trans hSr.out.k)
          cases z1 with
          | true =>
            have hK1 : o.isSome ∧ a = clsW := hz1.out.1 rfl
            obtain ⟨pp, hpp⟩ : ∃ pp, o = some pp := Option.isSome_iff_exists.1 hK1.1
            have htx2 : Hid (textD none ws ([], false) = textD none (ws.drop (i + 1)) (C, f)) := Lib.hid (by rw [htx.out, hdrop'.out, hK1.2, hpp, textD_close, hdr'.out])
            have hth := Lib.hid (hSr.out.blk.there 0 4 (Nat.le_refl 4))
            have hS9 : Hid (RtS gA w1 (wc.setCells gA 0 [.int .i64 0, .string ⟨#[]⟩, .string ⟨#[]⟩, .string ⟨#[]⟩]) 0 ⟨#[]⟩ q d none C) := Lib.hid (hSr.out.turn (Keeps.setCells (F := fun i => i = gA) (.inl rfl) _ _ _ (Keeps.refl _ _)) (setCells_blk hSr.out.blk) (fun a b => rfl) (by decide))
            have hw1 : IntKind.i64.wrap ((i : Int) + 1) = (i : Int) + 1 := IntWalk.i64_in _ (by omega)
            clear hK1 hpp ca hAc hSr hz1
            go_wp2_with ((with_reducible refine at_store 8 ?_); refine wpList_store_mid rfl 37 (.tmp 8) (.tmp 37) rfl gA 0 #[.int .i64 0, .string ⟨#[]⟩, .string ⟨#[]⟩, .string ⟨#[]⟩] rfl rfl hth.out line5InfoG (line_one _ _ _ _) ?_)
            exact ⟨⟨i + 1, C, q, d, none, 0, ⟨#[]⟩, f, by omega, by go_num, rfl, rfl, rfl, htx2, hS9⟩, by simp [intOf]; omega⟩
          | false =>
            have hK1 : Hid (¬ (o.isSome ∧ a = clsW)) := Lib.hid (fun h => by have := hz1.out.2 h; cases this)
            clear hz1
            go_upto_region 13 with fail
            go_cut [40] (fun tv wx => (∃ z : Bool, tv = .bool z ∧ Hid (IffB z (∃ b r2, r = b :: opnW :: r2 ∧ o = none ∧ headD a ≠ 0))) ∧ wx = wc)
            case first =>
              cases ob with
              | true =>
                have hzz : Hid (IffB false (∃ b r2, r = b :: opnW :: r2 ∧ o = none ∧ headD a ≠ 0)) := Lib.hid (by
                  unfold IffB
                  refine ⟨(fun e => by cases e), fun ⟨b, r2, _, ho, _⟩ => ?_⟩
                  have := hob'.out; rw [ho] at this; cases this)
                go_wp2_with fail
                go_meet
                case rel => exact ⟨⟨false, rfl, hzz⟩, rfl⟩
              | false =>
                have hon : Hid (o = none) := Lib.hid (by simpa using hob'.out)
                by_cases hr2 : 2 ≤ r.length
                · skip
                  obtain ⟨b, d2, r2, hrr⟩ : ∃ b d2 r2, r = b :: d2 :: r2 := by
                    match r, hr2 with
                    | [], h => simp at h
                    | [_], h => simp at h
                    | b :: d2 :: r2, _ => exact ⟨b, d2, r2, rfl⟩
                  obtain ⟨B, hBB⟩ : ∃ X : ByteArray, X = ⟨b.toArray⟩ := ⟨_, rfl⟩
                  obtain ⟨D, hDD⟩ : ∃ X : ByteArray, X = ⟨d2.toArray⟩ := ⟨_, rfl⟩
                  have hb1 : ws[i + 1]? = some b := by
                    have := congrArg (fun l => l[0]?) (hdr'.out.symm.trans hrr)
                    simpa using this
                  have hb2 : ws[i + 2]? = some d2 := by
                    have := congrArg (fun l => l[1]?) (hdr'.out.symm.trans hrr)
                    simpa [Nat.add_assoc] using this
                  have c1 : wc.cell? ⟨g, o2 + (i + 1), none⟩ = some (.string B) := by have := word_cell hrW.out (i + 1) b hb1; rw [hBB]; exact this
                  have c2 : wc.cell? ⟨g, o2 + (i + 2), none⟩ = some (.string D) := by have := word_cell hrW.out (i + 2) d2 hb2; rw [hDD]; exact this
                  have sB : b.length ≤ 1000000 := hsm.out b (List.mem_of_getElem? hb1)
                  have hi2 : (i : Int) + 2 < (ws.length : Int) := by have h1 := hrl'.out; rw [hrr] at h1; simp at h1; omega
                  have hw1 : IntKind.i64.wrap ((i : Int) + 1) = (i : Int) + 1 := IntWalk.i64_in _ (by omega)
                  have hw2 : IntKind.i64.wrap ((i : Int) + 2) = (i : Int) + 2 := IntWalk.i64_in _ (by omega)
                  have hw3 : IntKind.i64.wrap ((i : Int) + 3) = (i : Int) + 3 := IntWalk.i64_in _ (by omega)
                  have t1 : ((i : Int) + 1).toNat = i + 1 := by omega
                  have t2 : ((i : Int) + 2).toNat = i + 2 := by omega
                  have p1 : (0 : Int) ≤ (i : Int) + 1 := by omega
                  have p2 : (0 : Int) ≤ (i : Int) + 2 := by omega
                  have p3 : (i : Int) + 1 < (ws.length : Int) := by omega
                  have hBd : Hid (B.data.toList = b) := Lib.hid (by rw [hBB])
                  have hDc := ba_eq D [123] d2 hDD
                  have hDe := ba_eq D [59] d2 hDD
                  have hrr' := Lib.hid hrr
                  clear hBB hDD hb1 hb2
                  obtain ⟨hd, hhd⟩ : ∃ h, headD a = h := ⟨_, rfl⟩
                  have hhA : Hid (headD A.data.toList = hd) := Lib.hid (by rw [hAd.out]; exact hhd)
                  have hhd12 := headD_012 a
                  rw [hhd] at hhd12
                  have hhd' := Lib.hid hhd
                  clear hhd
                  by_cases hh0 : hd = 0
                  · have q1 : ¬ (0 : Int) < hd := by omega
                    have hzz : Hid (IffB false (∃ b r2, r = b :: opnW :: r2 ∧ o = none ∧ headD a ≠ 0)) := Lib.hid (by
                      unfold IffB
                      refine ⟨(fun e => by cases e), fun ⟨b, r2, _, _, h3⟩ => absurd (hhd'.out.trans hh0) h3⟩)
                    clear hh0 hDc hDe hrr hhd12
                    go_wp2_with fail
                    refine (rHead_any A hd _ hhA).mono ?_
                    rintro e wy ⟨rfl, rfl⟩
                    go_wp2_with fail
                    go_meet
                    case rel => exact ⟨⟨false, rfl, hzz⟩, rfl⟩
                  · have q1 : (0 : Int) < hd := by omega
                    by_cases hd1 : d2 = [123]
                    · have e2 : (D.toList == [123]) = true := by rw [hDc]; simp [hd1]
                      have hzz : Hid (IffB true (∃ b r2, r = b :: opnW :: r2 ∧ o = none ∧ headD a ≠ 0)) := Lib.hid (by
                        unfold IffB
                        exact ⟨fun _ => ⟨b, r2, by rw [hrr, hd1]; rfl, hon.out, by rw [hhd'.out]; exact hh0⟩, fun _ => rfl⟩)
                      clear hh0 hd1 hDc hDe hrr hhd12
                      go_wp2_with fail
                      refine (rHead_any A hd _ hhA).mono ?_
                      rintro e wy ⟨rfl, rfl⟩
                      go_wp2_with fail
                      go_meet
                      case rel => exact ⟨⟨true, rfl, hzz⟩, rfl⟩
                    · have e2 : (D.toList == [123]) = false := by rw [hDc]; simp [hd1]
                      have hzz : Hid (IffB false (∃ b r2, r = b :: opnW :: r2 ∧ o = none ∧ headD a ≠ 0)) := Lib.hid (by
                        unfold IffB
                        refine ⟨(fun e => by cases e), fun ⟨b3, r3, h1, _, _⟩ => ?_⟩
                        rw [hrr] at h1
                        injection h1 with h1 h2
                        injection h2 with h2 h3
                        exact absurd h2 hd1)
                      clear hh0 hd1 hDc hDe hrr hhd12
                      go_wp2_with fail
                      refine (rHead_any A hd _ hhA).mono ?_
                      rintro e wy ⟨rfl, rfl⟩
                      go_wp2_with fail
                      go_meet
                      case rel => exact ⟨⟨false, rfl, hzz⟩, rfl⟩
                · skip
                  have hi2 : ¬ (i : Int) + 2 < (ws.length : Int) := by have h1 := hrl'.out; omega
                  have hw2 : IntKind.i64.wrap ((i : Int) + 2) = (i : Int) + 2 := IntWalk.i64_in _ (by omega)
                  have hzz : Hid (IffB false (∃ b r2, r = b :: opnW :: r2 ∧ o = none ∧ headD a ≠ 0)) := Lib.hid (by
                    unfold IffB
                    refine ⟨(fun e => by cases e), fun ⟨b, r2, h1, _, _⟩ => ?_⟩
                    rw [h1] at hr2; simp at hr2)
                  clear hr2
                  go_wp2_with fail
                  go_meet
                  case rel => exact ⟨⟨false, rfl, hzz⟩, rfl⟩
            case rest =>
              obtain ⟨⟨z2, rfl, hz2⟩, rfl⟩ := hcut
              cases z2 with
              | true =>
                obtain ⟨b0, r20, hr0, hon0, hh0⟩ := hz2.out.1 rfl
                have hon := Lib.hid hon0
                have hh0' := Lib.hid hh0
                have hr2 : 2 ≤ r.length := by rw [hr0]; simp
                obtain ⟨b, d2, r2, hrr⟩ : ∃ b d2 r2, r = b :: d2 :: r2 := by
                  match r, hr2 with
                  | [], h => simp at h
                  | [_], h => simp at h
                  | b :: d2 :: r2, _ => exact ⟨b, d2, r2, rfl⟩
                obtain ⟨B, hBB⟩ : ∃ X : ByteArray, X = ⟨b.toArray⟩ := ⟨_, rfl⟩
                obtain ⟨D, hDD⟩ : ∃ X : ByteArray, X = ⟨d2.toArray⟩ := ⟨_, rfl⟩
                have hb1 : ws[i + 1]? = some b := by
                  have := congrArg (fun l => l[0]?) (hdr'.out.symm.trans hrr)
                  simpa using this
                have hb2 : ws[i + 2]? = some d2 := by
                  have := congrArg (fun l => l[1]?) (hdr'.out.symm.trans hrr)
                  simpa [Nat.add_assoc] using this
                have c1 : wc.cell? ⟨g, o2 + (i + 1), none⟩ = some (.string B) := by have := word_cell hrW.out (i + 1) b hb1; rw [hBB]; exact this
                have c2 : wc.cell? ⟨g, o2 + (i + 2), none⟩ = some (.string D) := by have := word_cell hrW.out (i + 2) d2 hb2; rw [hDD]; exact this
                have sB : b.length ≤ 1000000 := hsm.out b (List.mem_of_getElem? hb1)
                have hi2 : (i : Int) + 2 < (ws.length : Int) := by have h1 := hrl'.out; rw [hrr] at h1; simp at h1; omega
                have hw1 : IntKind.i64.wrap ((i : Int) + 1) = (i : Int) + 1 := IntWalk.i64_in _ (by omega)
                have hw2 : IntKind.i64.wrap ((i : Int) + 2) = (i : Int) + 2 := IntWalk.i64_in _ (by omega)
                have hw3 : IntKind.i64.wrap ((i : Int) + 3) = (i : Int) + 3 := IntWalk.i64_in _ (by omega)
                have t1 : ((i : Int) + 1).toNat = i + 1 := by omega
                have t2 : ((i : Int) + 2).toNat = i + 2 := by omega
                have p1 : (0 : Int) ≤ (i : Int) + 1 := by omega
                have p2 : (0 : Int) ≤ (i : Int) + 2 := by omega
                have p3 : (i : Int) + 1 < (ws.length : Int) := by omega
                have hBd : Hid (B.data.toList = b) := Lib.hid (by rw [hBB])
                have hDc := ba_eq D [123] d2 hDD
                have hDe := ba_eq D [59] d2 hDD
                have hrr' := Lib.hid hrr
                clear hBB hDD hb1 hb2
                have hbe : b0 = b ∧ d2 = [123] ∧ r20 = r2 := by
                  rw [hr0] at hrr
                  injection hrr with h1 h2
                  injection h2 with h2 h3
                  exact ⟨h1, h2.symm, h3⟩
                obtain ⟨rfl, hd2, rfl⟩ := hbe
                have hd2' := Lib.hid hd2
                obtain ⟨hd, hhd⟩ : ∃ h, headD a = h := ⟨_, rfl⟩
                have hhA : Hid (headD A.data.toList = hd) := Lib.hid (by rw [hAd.out]; exact hhd)
                have hhd' := Lib.hid hhd
                have hca := Lib.hid ca
                have hc1 := Lib.hid c1
                have sB2 : B.size ≤ 8796093022000 := by have h1 : B.data.toList.length = B.size := rfl; rw [hBd.out] at h1; omega
                obtain ⟨z3, hz3⟩ : ∃ z, namedB hd B.data.toList = z := ⟨_, rfl⟩
                have hz3' := Lib.hid hz3
                clear hr0 hon0 hh0 hDc hDe hrr hd2 hhd ca c1 c2 hz3 hz2
                have hob0 : ob = false := by rw [← hob'.out, hon.out]; rfl
                subst hob0
                go_upto_region 14 with fail
                refine wp_region_noPanic ?_
                refine wp_region_held_drew (S := (fun W' => Keeps (fun _ => False) wc W')) (by kernel_rfl) (((Keeps.refl _ _).drew)) (fun hHeld => ?_)
                refine tk 0 rfl ?_
                refine tk 1 rfl ?_
                refine tk 2 rfl ?_
                refine tkL 3 rfl (yieldsIf_load_cell (by rfl) 9 (.tmp 68) rfl g (o2 + i) rfl _ (fun _ s => (s.cell (p := ⟨g, o2 + i, none⟩) (World.block_lt_of_cell? wc _ hca.out) id).trans hca.out) (fun w s => load_str w _ _ _ s)) ?_
                refine tk 5 rfl ?_
                refine tk 6 rfl ?_
                refine tk 7 rfl ?_
                refine tk 8 rfl ?_
                refine tkL 9 rfl (yieldsIf_load_cell (by rfl) 9 (.tmp 74) rfl g (o2 + (i + 1)) rfl _ (fun _ s => (s.cell (p := ⟨g, o2 + (i + 1), none⟩) (World.block_lt_of_cell? wc _ hc1.out) id).trans hc1.out) (fun w s => load_str w _ _ _ s)) ?_
                refine stepL 4 rfl (by kernel_rfl) (fun K hK => ?_)
                go_simp
                (refine (rHead_any A hd _ hhA).mono ?_; rintro e wy ⟨rfl, rfl⟩)
                go_wp2_with fail
                refine hK.out _ _ (hHeld) (fun hHeld => ?_)
                clear hK K
                try simp only [Act.put, sA, sZ, sS]
                refine stepL 10 rfl (by kernel_rfl) (fun K hK => ?_)
                go_simp
                (refine (rNamed_any hd B z3 _ sB2 hz3').mono ?_; rintro e wy ⟨rfl, ky⟩; have ky' := Lib.hid ky; clear ky)
                go_wp2_with fail
                refine hK.out _ _ ((hHeld.trans ky'.out)) (fun hHeld => ?_)
                clear hK K
                try simp only [Act.put, sA, sZ, sS]
                refine tk 11 rfl ?_
                refine wpAnyH_done (by kernel_rfl) (NoPanic.normal ?_) _
                have hSy := Lib.hid (hSr.out.next hHeld)
                have hcay := Lib.hid ((hHeld.cell (p := ⟨g, o2 + i, none⟩) (World.block_lt_of_cell? wc _ hca.out) id).trans hca.out)
                have hc1y := Lib.hid ((hHeld.cell (p := ⟨g, o2 + (i + 1), none⟩) (World.block_lt_of_cell? wc _ hc1.out) id).trans hc1.out)
                clear hHeld hSr hca hc1 hrW ky'
                cases z3 with
                | false =>
                  have hans : Hid (ansT s.data.toList = ([], 3)) := Lib.hid (ansT_none hL'.out (by
                    rw [htx.out, hdrop'.out, hon.out]
                    refine textD_noblock hh0'.out (fun b3 c3 r3 h1 _ => ?_)
                    rw [hrr'.out] at h1
                    injection h1 with h1 _
                    rw [← h1, hhd'.out, ← hBd.out]; exact hz3'.out))
                  have hkw := Lib.hid (hk1.out.trans hSy.out.k)
                  go_wp2_with fail
                  go_ret2
                  rw [hans.out]
                  exact ⟨none, 0, rfl, RowsAt.nil _, hkw.out⟩
                | true =>
                  have htx2 : Hid (textD none ws ([], false) = textD (some (hd, b0)) (ws.drop (i + 3)) (C, f)) := Lib.hid (by
                    have hdd : ws.drop (i + 3) = r20 := by
                      have h1 := hdr'.out.symm.trans hrr'.out
                      have h2 := congrArg (List.drop 2) h1
                      rw [List.drop_drop] at h2
                      simpa [Nat.add_assoc] using h2
                    rw [htx.out, hdrop'.out, hon.out, hrr'.out, hd2'.out, hdd]
                    show textD none (a :: b0 :: opnW :: r20) (C, f) = _
                    rw [textD_block hh0'.out (by rw [hhd'.out, ← hBd.out]; exact hz3'.out), hhd'.out])
                  have sB3 : B.size ≤ 1000000 := by have h1 : B.data.toList.length = B.size := rfl; rw [hBd.out] at h1; omega
                  have hi3 : i + 3 ≤ ws.length := by omega
                  have hgg : Hid (¬ g = gA) := Lib.hid (by
                    have h1 : g < w1.heap.size := World.block_lt_of_cell? w1 _ (hr'.out 0 (strv ws[0]) (by simp [show 0 < ws.length by omega]))
                    have h2 := hSy.out.ge
                    omega)
                  have hS9 : Hid (RtS gA w1 (wy.drew.setCells gA 0 [.int .i64 hd, .string B, .string ⟨#[]⟩, .string ⟨#[]⟩]) hd B q d (some (hd, b0)) C) := Lib.hid (hSy.out.turn (((Keeps.refl (fun i => i = gA) wy).drew).trans (Keeps.setCells (F := fun i => i = gA) (.inl rfl) _ _ _ (Keeps.refl _ _))) (setCells_blk (hSy.out.blk.keep ((Keeps.refl (fun _ => False) wy).drew) id)) (fun a b => by unfold atL; rw [hBd.out]) sB3)
                  have hth := Lib.hid ((hSy.out.blk.keep ((Keeps.refl (fun _ => False) wy).drew) id).there 0 4 (Nat.le_refl 4))
                  clear hz3' hrr' hd2' hh0'
                  go_upto_region 16 with fail
                  refine wp_region_noPanic ?_
                  refine wp_region_held_drew (S := (fun W' => Keeps (fun k => k = gA) wy W')) (by kernel_rfl) (((Keeps.refl _ _).drew)) (fun hHeld => ?_)
                  refine tk 0 rfl ?_
                  refine tk 1 rfl ?_
                  refine tk 2 rfl ?_
                  refine tkL 3 rfl (yieldsIf_load_cell (by rfl) 9 (.tmp 80) rfl g (o2 + i) rfl _ (fun _ s => (s.cell (p := ⟨g, o2 + i, none⟩) (World.block_lt_of_cell? wy _ hcay.out) hgg.out).trans hcay.out) (fun w s => load_str w _ _ _ s)) ?_
                  refine tk 5 rfl ?_
                  refine tk 6 rfl ?_
                  refine tk 7 rfl ?_
                  refine tk 8 rfl ?_
                  refine tkL 9 rfl (yieldsIf_load_cell (by rfl) 9 (.tmp 86) rfl g (o2 + (i + 1)) rfl _ (fun _ s => (s.cell (p := ⟨g, o2 + (i + 1), none⟩) (World.block_lt_of_cell? wy _ hc1y.out) hgg.out).trans hc1y.out) (fun w s => load_str w _ _ _ s)) ?_
                  refine tk 11 rfl ?_
                  refine tk 12 rfl ?_
                  refine stepL 4 rfl (by kernel_rfl) (fun K hK => ?_)
                  go_simp
                  (refine (rHead_any A hd _ hhA).mono ?_; rintro e wz ⟨rfl, rfl⟩)
                  go_wp2_with fail
                  refine hK.out _ _ (hHeld) (fun hHeld => ?_)
                  clear hK K
                  try simp only [Act.put, sA, sZ, sS]
                  refine tk 10 rfl ?_
                  refine stepL 13 rfl (by kernel_rfl) (fun K hK => ?_)
                  rw [if_pos (by rfl)]
                  (refine wp_store_mid 37 (.tmp 8) (.tmp 88) rfl gA 0 #[.int .i64 hd, .string B, .string ⟨#[]⟩, .string ⟨#[]⟩] rfl rfl hth.out line5InfoG (line_one _ _ _ _) ?_)
                  refine hK.out _ _ ((hHeld.trans (Keeps.setCells (F := fun i => i = gA) (.inl rfl) _ _ _ (Keeps.refl _ _)))) (fun hHeld => ?_)
                  clear hK K
                  try simp only [Act.put, sA, sZ, sS]
                  refine tk 14 rfl ?_
                  refine tk 15 rfl ?_
                  refine wpAnyH_done (by kernel_rfl) (NoPanic.normal ?_) _
                  clear hHeld hcay hc1y hth hSy
                  go_wp2_with fail
                  exact ⟨⟨i + 3, C, q, d, some (hd, b0), hd, B, f, hi3, by go_num, rfl, rfl, rfl, htx2, hS9⟩, by simp [intOf]; omega⟩
              | false =>
                have hK2 : Hid (¬ ∃ b r2, r = b :: opnW :: r2 ∧ o = none ∧ headD a ≠ 0) := Lib.hid (fun h => by have := hz2.out.2 h; cases this)
                clear hz2
                go_upto_region 17 with fail
                go_cut [91] (fun tv wx => (∃ z : Bool, tv = .bool z ∧ Hid (IffB z (∃ b r2, r = b :: endW :: r2 ∧ signW a = false ∧ signW b = false))) ∧ wx = wc)
                case first =>
                  by_cases hr2 : 2 ≤ r.length
                  · skip
                    obtain ⟨b, d2, r2, hrr⟩ : ∃ b d2 r2, r = b :: d2 :: r2 := by
                      match r, hr2 with
                      | [], h => simp at h
                      | [_], h => simp at h
                      | b :: d2 :: r2, _ => exact ⟨b, d2, r2, rfl⟩
                    obtain ⟨B, hBB⟩ : ∃ X : ByteArray, X = ⟨b.toArray⟩ := ⟨_, rfl⟩
                    obtain ⟨D, hDD⟩ : ∃ X : ByteArray, X = ⟨d2.toArray⟩ := ⟨_, rfl⟩
                    have hb1 : ws[i + 1]? = some b := by
                      have := congrArg (fun l => l[0]?) (hdr'.out.symm.trans hrr)
                      simpa using this
                    have hb2 : ws[i + 2]? = some d2 := by
                      have := congrArg (fun l => l[1]?) (hdr'.out.symm.trans hrr)
                      simpa [Nat.add_assoc] using this
                    have c1 : wc.cell? ⟨g, o2 + (i + 1), none⟩ = some (.string B) := by have := word_cell hrW.out (i + 1) b hb1; rw [hBB]; exact this
                    have c2 : wc.cell? ⟨g, o2 + (i + 2), none⟩ = some (.string D) := by have := word_cell hrW.out (i + 2) d2 hb2; rw [hDD]; exact this
                    have sB : b.length ≤ 1000000 := hsm.out b (List.mem_of_getElem? hb1)
                    have hi2 : (i : Int) + 2 < (ws.length : Int) := by have h1 := hrl'.out; rw [hrr] at h1; simp at h1; omega
                    have hw1 : IntKind.i64.wrap ((i : Int) + 1) = (i : Int) + 1 := IntWalk.i64_in _ (by omega)
                    have hw2 : IntKind.i64.wrap ((i : Int) + 2) = (i : Int) + 2 := IntWalk.i64_in _ (by omega)
                    have hw3 : IntKind.i64.wrap ((i : Int) + 3) = (i : Int) + 3 := IntWalk.i64_in _ (by omega)
                    have t1 : ((i : Int) + 1).toNat = i + 1 := by omega
                    have t2 : ((i : Int) + 2).toNat = i + 2 := by omega
                    have p1 : (0 : Int) ≤ (i : Int) + 1 := by omega
                    have p2 : (0 : Int) ≤ (i : Int) + 2 := by omega
                    have p3 : (i : Int) + 1 < (ws.length : Int) := by omega
                    have hBd : Hid (B.data.toList = b) := Lib.hid (by rw [hBB])
                    have hDc := ba_eq D [123] d2 hDD
                    have hDe := ba_eq D [59] d2 hDD
                    have hrr' := Lib.hid hrr
                    clear hBB hDD hb1 hb2
                    obtain ⟨sa, hsa0⟩ : ∃ z, signW a = z := ⟨_, rfl⟩
                    have hsa : Hid (signW A.data.toList = sa) := Lib.hid (by rw [hAd.out]; exact hsa0)
                    obtain ⟨sb, hsb0⟩ : ∃ z, signW b = z := ⟨_, rfl⟩
                    have hsb : Hid (signW B.data.toList = sb) := Lib.hid (by rw [hBd.out]; exact hsb0)
                    have hsa' := Lib.hid hsa0
                    have hsb' := Lib.hid hsb0
                    clear hsa0 hsb0 hDc
                    cases sa with
                    | true =>
                      have hzz : Hid (IffB false (∃ b r2, r = b :: endW :: r2 ∧ signW a = false ∧ signW b = false)) := Lib.hid (by
                        unfold IffB
                        refine ⟨(fun e => by cases e), fun ⟨b3, r3, h1, h2, _⟩ => ?_⟩
                        rw [hsa'.out] at h2; cases h2)
                      clear hDe hrr
                      go_wp2_with fail
                      refine (sign_any A true _ hsa).mono ?_
                      rintro e wy ⟨rfl, rfl⟩
                      go_wp2_with fail
                      go_meet
                      case rel => exact ⟨⟨false, rfl, hzz⟩, rfl⟩
                    | false =>
                      cases sb with
                      | true =>
                        have hzz : Hid (IffB false (∃ b r2, r = b :: endW :: r2 ∧ signW a = false ∧ signW b = false)) := Lib.hid (by
                          unfold IffB
                          refine ⟨(fun e => by cases e), fun ⟨b3, r3, h1, _, h2⟩ => ?_⟩
                          rw [hrr] at h1
                          injection h1 with h1 _
                          rw [← h1, hsb'.out] at h2; cases h2)
                        clear hDe hrr
                        go_wp2_with fail
                        refine (sign_any A false _ hsa).mono ?_
                        rintro e wy ⟨rfl, rfl⟩
                        go_wp2_with fail
                        refine (sign_any B true _ hsb).mono ?_
                        rintro e wy ⟨rfl, rfl⟩
                        go_wp2_with fail
                        go_meet
                        case rel => exact ⟨⟨false, rfl, hzz⟩, rfl⟩
                      | false =>
                        by_cases hd1 : d2 = [59]
                        · have e2 : (D.toList == [59]) = true := by rw [hDe]; simp [hd1]
                          have hzz : Hid (IffB true (∃ b r2, r = b :: endW :: r2 ∧ signW a = false ∧ signW b = false)) := Lib.hid (by
                            unfold IffB
                            exact ⟨fun _ => ⟨b, r2, by rw [hrr, hd1]; rfl, hsa'.out, hsb'.out⟩, fun _ => rfl⟩)
                          clear hd1 hDe hrr
                          go_wp2_with fail
                          refine (sign_any A false _ hsa).mono ?_
                          rintro e wy ⟨rfl, rfl⟩
                          go_wp2_with fail
                          refine (sign_any B false _ hsb).mono ?_
                          rintro e wy ⟨rfl, rfl⟩
                          go_wp2_with fail
                          go_meet
                          case rel => exact ⟨⟨true, rfl, hzz⟩, rfl⟩
                        · have e2 : (D.toList == [59]) = false := by rw [hDe]; simp [hd1]
                          have hzz : Hid (IffB false (∃ b r2, r = b :: endW :: r2 ∧ signW a = false ∧ signW b = false)) := Lib.hid (by
                            unfold IffB
                            refine ⟨(fun e => by cases e), fun ⟨b3, r3, h1, _, _⟩ => ?_⟩
                            rw [hrr] at h1
                            injection h1 with h1 h2
                            injection h2 with h2 h3
                            exact absurd h2 hd1)
                          clear hd1 hDe hrr
                          go_wp2_with fail
                          refine (sign_any A false _ hsa).mono ?_
                          rintro e wy ⟨rfl, rfl⟩
                          go_wp2_with fail
                          refine (sign_any B false _ hsb).mono ?_
                          rintro e wy ⟨rfl, rfl⟩
                          go_wp2_with fail
                          go_meet
                          case rel => exact ⟨⟨false, rfl, hzz⟩, rfl⟩
                  · skip
                    have hi2 : ¬ (i : Int) + 2 < (ws.length : Int) := by have h1 := hrl'.out; omega
                    have hw2 : IntKind.i64.wrap ((i : Int) + 2) = (i : Int) + 2 := IntWalk.i64_in _ (by omega)
                    have hzz : Hid (IffB false (∃ b r2, r = b :: endW :: r2 ∧ signW a = false ∧ signW b = false)) := Lib.hid (by
                      unfold IffB
                      refine ⟨(fun e => by cases e), fun ⟨b, r2, h1, _, _⟩ => ?_⟩
                      rw [h1] at hr2; simp at hr2)
                    clear hr2
                    go_wp2_with fail
                    go_meet
                    case rel => exact ⟨⟨false, rfl, hzz⟩, rfl⟩
                case rest =>
                  obtain ⟨⟨z4, rfl, hz4⟩, rfl⟩ := hcut
                  cases z4 with
                  | true =>
                    obtain ⟨b0, r20, hr0, hsa0, hsb0⟩ := hz4.out.1 rfl
                    have hsa := Lib.hid hsa0
                    have hsb := Lib.hid hsb0
                    have hr2 : 2 ≤ r.length := by rw [hr0]; simp
                    obtain ⟨b, d2, r2, hrr⟩ : ∃ b d2 r2, r = b :: d2 :: r2 := by
                      match r, hr2 with
                      | [], h => simp at h
                      | [_], h => simp at h
                      | b :: d2 :: r2, _ => exact ⟨b, d2, r2, rfl⟩
                    obtain ⟨B, hBB⟩ : ∃ X : ByteArray, X = ⟨b.toArray⟩ := ⟨_, rfl⟩
                    obtain ⟨D, hDD⟩ : ∃ X : ByteArray, X = ⟨d2.toArray⟩ := ⟨_, rfl⟩
                    have hb1 : ws[i + 1]? = some b := by
                      have := congrArg (fun l => l[0]?) (hdr'.out.symm.trans hrr)
                      simpa using this
                    have hb2 : ws[i + 2]? = some d2 := by
                      have := congrArg (fun l => l[1]?) (hdr'.out.symm.trans hrr)
                      simpa [Nat.add_assoc] using this
                    have c1 : wc.cell? ⟨g, o2 + (i + 1), none⟩ = some (.string B) := by have := word_cell hrW.out (i + 1) b hb1; rw [hBB]; exact this
                    have c2 : wc.cell? ⟨g, o2 + (i + 2), none⟩ = some (.string D) := by have := word_cell hrW.out (i + 2) d2 hb2; rw [hDD]; exact this
                    have sB : b.length ≤ 1000000 := hsm.out b (List.mem_of_getElem? hb1)
                    have hi2 : (i : Int) + 2 < (ws.length : Int) := by have h1 := hrl'.out; rw [hrr] at h1; simp at h1; omega
                    have hw1 : IntKind.i64.wrap ((i : Int) + 1) = (i : Int) + 1 := IntWalk.i64_in _ (by omega)
                    have hw2 : IntKind.i64.wrap ((i : Int) + 2) = (i : Int) + 2 := IntWalk.i64_in _ (by omega)
                    have hw3 : IntKind.i64.wrap ((i : Int) + 3) = (i : Int) + 3 := IntWalk.i64_in _ (by omega)
                    have t1 : ((i : Int) + 1).toNat = i + 1 := by omega
                    have t2 : ((i : Int) + 2).toNat = i + 2 := by omega
                    have p1 : (0 : Int) ≤ (i : Int) + 1 := by omega
                    have p2 : (0 : Int) ≤ (i : Int) + 2 := by omega
                    have p3 : (i : Int) + 1 < (ws.length : Int) := by omega
                    have hBd : Hid (B.data.toList = b) := Lib.hid (by rw [hBB])
                    have hDc := ba_eq D [123] d2 hDD
                    have hDe := ba_eq D [59] d2 hDD
                    have hrr' := Lib.hid hrr
                    clear hBB hDD hb1 hb2
                    have hbe : b0 = b ∧ d2 = [59] ∧ r20 = r2 := by
                      rw [hr0] at hrr
                      injection hrr with h1 h2
                      injection h2 with h2 h3
                      exact ⟨h1, h2.symm, h3⟩
                    obtain ⟨rfl, hd2, rfl⟩ := hbe
                    have hd2' := Lib.hid hd2
                    have hca := Lib.hid ca
                    have hc1 := Lib.hid c1
                    have hbs : B.data.toList.length = B.size := rfl
                    have hns := hSr.out.nms
                    have sB2 : B.size ≤ 8796093022000 := by rw [hBd.out] at hbs; omega
                    have hi3 : i + 3 ≤ ws.length := by omega
                    have hd3 : Hid (ws.drop (i + 3) = r20) := Lib.hid (by
                      have h1 := hdr'.out.symm.trans hrr'.out
                      have h2 := congrArg (List.drop 2) h1
                      rw [List.drop_drop] at h2
                      simpa [Nat.add_assoc] using h2)
                    have hx : Hid (atL o a b0 = ⟨h, Nm.data.toList, A.data.toList, B.data.toList⟩) := Lib.hid (by rw [hSr.out.att, hAd.out, hBd.out])
                    obtain ⟨z5, hz5⟩ : ∃ z, lineB (atL o a b0) = z := ⟨_, rfl⟩
                    have hz5' : Hid (lineB ⟨h, Nm.data.toList, A.data.toList, B.data.toList⟩ = z5) := Lib.hid (by rw [← hx.out]; exact hz5)
                    have hstep : Hid (textD none ws ([], false) = if z5 = true then textD o (ws.drop (i + 3)) (putS (C, f) (atL o a b0)) else none) := Lib.hid (by
                      rw [htx.out, hdrop'.out, hrr'.out, hd2'.out, hd3.out]
                      show textD o (a :: b0 :: endW :: r20) (C, f) = _
                      rw [textD_k3 hK1.out hsa.out hsb.out, hz5])
                    clear hr0 hsa0 hsb0 hDc hDe hrr hd2 ca c1 c2 hz4 hz5 hbs
                    go_upto_region 18 with fail
                    refine wp_region_noPanic ?_
                    refine wp_region_held_drew (S := (fun W' => Keeps (fun _ => False) wc W')) (by kernel_rfl) (((Keeps.refl _ _).drew)) (fun hHeld => ?_)
                    refine tk 0 rfl ?_
                    refine tkL 1 rfl (yieldsIf_load_cell (by rfl) 3 (.tmp 122) rfl gA 0 rfl _ (fun _ s => (hSr.out.blk.keep s id).cell 0 _ rfl) (fun w s => load_int w _ _ _ s)) ?_
                    refine tk 2 rfl ?_
                    refine tkL 3 rfl (yieldsIf_load_cell (by rfl) 9 (.tmp 124) rfl gA 1 rfl _ (fun _ s => (hSr.out.blk.keep s id).cell 1 _ rfl) (fun w s => load_str w _ _ _ s)) ?_
                    refine tk 4 rfl ?_
                    refine tk 5 rfl ?_
                    refine tk 6 rfl ?_
                    refine tkL 7 rfl (yieldsIf_load_cell (by rfl) 9 (.tmp 128) rfl g (o2 + i) rfl _ (fun _ s => (s.cell (p := ⟨g, o2 + i, none⟩) (World.block_lt_of_cell? wc _ hca.out) id).trans hca.out) (fun w s => load_str w _ _ _ s)) ?_
                    refine tk 8 rfl ?_
                    refine tk 9 rfl ?_
                    refine tk 10 rfl ?_
                    refine tk 11 rfl ?_
                    refine tkL 12 rfl (yieldsIf_load_cell (by rfl) 9 (.tmp 133) rfl g (o2 + (i + 1)) rfl _ (fun _ s => (s.cell (p := ⟨g, o2 + (i + 1), none⟩) (World.block_lt_of_cell? wc _ hc1.out) id).trans hc1.out) (fun w s => load_str w _ _ _ s)) ?_
                    refine tk 13 rfl ?_
                    refine stepL 14 rfl (by kernel_rfl) (fun K hK => ?_)
                    go_simp
                    refine hK.out _ _ ((hHeld.alloc _)) (fun hHeld => ?_)
                    clear hK K
                    try simp only [Act.put, sA, sZ, sS]
                    have hb := BlkAt.new wc.drew 37 [.int .i64 0, .string ⟨#[]⟩, .string ⟨#[]⟩, .string ⟨#[]⟩]
                    have hth := hb.there 0 4 (Nat.le_refl 4)
                    refine stepL 15 rfl (by kernel_rfl) (fun K hK => ?_)
                    rw [if_pos (by rfl)]
                    (refine wp_store_mid 37 (.tmp 12) (.tmp 135) rfl wc.drew.heap.size 0 #[.int .i64 h, .string Nm, .string A, .string B] rfl rfl hth line5InfoG (line_one _ _ _ _) ?_)
                    refine hK.out _ _ ((hHeld.trans' (Keeps.setCells (F := fun i => i = wc.drew.heap.size) (.inl rfl) _ _ _ (Keeps.refl _ _)) (fun i e => .inr (by rw [e]; exact Nat.le_refl _)))) (fun hHeld => ?_)
                    clear hK K
                    try simp only [Act.put, sA, sZ, sS]
                    refine wpAnyH_done (by kernel_rfl) (NoPanic.normal ?_) _
                    have hl9 : ((wc.alloc (.cells #[.int .i64 0, .string ⟨#[]⟩, .string ⟨#[]⟩, .string ⟨#[]⟩] 37)).drew.setCells wc.drew.heap.size 0 [.int .i64 h, .string Nm, .string A, .string B]).rangeAt wc.heap.size 0 [.int .i64 h, .string Nm, .string A, .string B] := World.rangeAt_setCells_same _ _ _ _ hth
                    generalize ((wc.alloc (.cells #[.int .i64 0, .string ⟨#[]⟩, .string ⟨#[]⟩, .string ⟨#[]⟩] 37)).drew.setCells wc.drew.heap.size 0 [.int .i64 h, .string Nm, .string A, .string B]) = W9 at hHeld hl9 ⊢
                    generalize wc.heap.size = gl at hl9 ⊢
                    have hl9' := Lib.hid hl9
                    have hS9 := Lib.hid (hSr.out.next hHeld)
                    clear hl9 hHeld hb hth hca hc1 hrW hSr
                    go_wp2_with ((with_reducible refine at_slot 136 ?_); refine wpList_load_mid rfl 37 (.tmp 12) rfl gl 0 rfl [.int .i64 h, .string Nm, .string A, .string B] _ hl9'.out Tryd.underlying37 rfl line5InfoG ?_)
                    refine (rRightLine_any h Nm A B z5 _ (by omega) sB2 hz5').mono ?_
                    rintro e w5 ⟨rfl, k5⟩
                    have hS5 := Lib.hid (hS9.out.next k5)
                    have hl5 := Lib.hid (k5.rangeAt hl9'.out id)
                    clear k5 hS9 hl9'
                    have hkw := Lib.hid (hk1.out.trans hS5.out.k)
                    cases z5 with
                    | false =>
                      have hans : Hid (ansT s.data.toList = ([], 3)) := Lib.hid (ansT_none hL'.out (by rw [hstep.out]; rfl))
                      go_wp2_with fail
                      go_ret2
                      rw [hans.out]
                      exact ⟨none, 0, rfl, RowsAt.nil _, hkw.out⟩
                    | true =>
                      have hstep2 : Hid (textD none ws ([], false) = textD o (ws.drop (i + 3)) (putS (C, f) (atL o a b0))) := Lib.hid (by rw [hstep.out]; rfl)
                      rw [hx.out] at hstep2
                      clear hstep
                      cases f with
                      | true =>
                        have hput : putS (C, true) ⟨h, Nm.data.toList, A.data.toList, B.data.toList⟩ = (C, true) := by unfold putS; rfl
                        rw [hput] at hstep2
                        clear hput
                        go_wp2_with fail
                        exact ⟨⟨i + 3, C, q, d, o, h, Nm, true, hi3, by go_num, rfl, by rw [hob'.out], rfl, hstep2, hS5⟩, by simp [intOf]; omega⟩
                      | false =>
                        go_wp2_with ((with_reducible refine at_slot 143 ?_); refine wpList_load_mid rfl 37 (.tmp 12) rfl gl 0 rfl [.int .i64 h, .string Nm, .string A, .string B] _ hl5.out Tryd.underlying37 rfl line5InfoG ?_)
                        refine (rSet_c _ C h Nm A B _ (Lib.hid hS5.out.rows) (Lib.hid (right_lt hS5.out.right 8796093022000 (by omega))) (by omega) sB2 (right_len hS5.out.right) (Lib.hid hS5.out.right) hz5').mono ?_
                        rintro e w6 ⟨h1, h2, k6⟩
                        have hS6 := Lib.hid (hS5.out.next k6)
                        have hgA : Hid (gA < w5.heap.size) := Lib.hid (lt_of_block hS5.out.blk)
                        by_cases hle : (setC ⟨h, Nm.data.toList, A.data.toList, B.data.toList⟩ C).length ≤ 64
                        · obtain ⟨p6, c6, rfl, hO6⟩ := h1 hle
                          have hput : putS (C, false) ⟨h, Nm.data.toList, A.data.toList, B.data.toList⟩ = (setC ⟨h, Nm.data.toList, A.data.toList, B.data.toList⟩ C, false) := by unfold putS; rw [if_neg (by simp), if_pos hle]
                          rw [hput] at hstep2
                          have hC6 := right_setC hS5.out.right hz5'.out hle
                          obtain ⟨E, hE⟩ : ∃ E, setC ⟨h, Nm.data.toList, A.data.toList, B.data.toList⟩ C = E := ⟨_, rfl⟩
                          rw [hE] at hstep2 hC6 hO6 ⊢
                          have hS7 : Hid (RtS gA w1 w6 h Nm p6 c6 o E) := Lib.hid ⟨hS6.out.blk, hS6.out.att, hS6.out.nms, hO6.at lineVals_len, fun k e => by have h1 := hO6.2.1 k e; have h2 := hgA.out; omega, hC6, hS6.out.k, hS6.out.ge⟩
                          clear hput hE hO6 h1 h2 k6 hle hC6 hS6 hS5 hl5
                          go_wp2_with fail
                          exact ⟨⟨i + 3, E, p6, c6, o, h, Nm, false, hi3, by go_num, rfl, by rw [hob'.out], rfl, hstep2, hS7⟩, by simp [intOf]; omega⟩
                        · obtain rfl := h2 (by omega)
                          have hput : putS (C, false) ⟨h, Nm.data.toList, A.data.toList, B.data.toList⟩ = (C, true) := by unfold putS; rw [if_neg (by simp), if_neg hle]
                          rw [hput] at hstep2
                          clear hput h1 h2 k6 hle hS5 hl5
                          go_wp2_with fail
                          exact ⟨⟨i + 3, C, q, d, o, h, Nm, true, hi3, by go_num, rfl, by rw [hob'.out], rfl, hstep2, hS6⟩, by simp [intOf]; omega⟩
                  | false =>
                    have hK3 : Hid (¬ (∃ b r2, r = b :: endW :: r2 ∧ signW a = false ∧ signW b = false)) := Lib.hid (fun h => by have := hz4.out.2 h; cases this)
                    have hans : Hid (ansT s.data.toList = ([], 3)) := Lib.hid (ansT_none hL'.out (by
                      rw [htx.out, hdrop'.out]
                      exact textD_k4 hK1.out hK2.out hK3.out))
                    clear hz4
                    go_wp2_with fail
                    go_ret2
                    rw [hans.out]
                    exact ⟨none, 0, rfl, RowsAt.nil _, hkw.out⟩
      · obtain rfl : i = ws.length := by omega
        have hkw := Lib.hid (hk1.out.trans hSr.out.k)
        have htl : Hid (textD none ws ([], false) = textD o [] (C, f)) := Lib.hid (by rw [htx.out, List.drop_of_length_le (Nat.le_refl _)])
        have hR := Lib.hid hSr.out.rows
        cases o with
        | some pp =>
          have hans : Hid (ansT s.data.toList = ([], 3)) := Lib.hid (ansT_none hL'.out (by rw [htl.out]; exact textD_nilO _ _))
          have hos : (some pp : Option (Int × List UInt8)).isSome = true := rfl
          rw [hos]
          clear hos
          go_wp2_with fail
          go_ret2
          rw [hans.out]
          exact ⟨none, 0, rfl, RowsAt.nil _, hkw.out⟩
        | none =>
          have hos : (none : Option (Int × List UInt8)).isSome = false := rfl
          rw [hos]
          clear hos
          cases f with
          | true =>
            have hans : Hid (ansT s.data.toList = ([], 5)) := Lib.hid (ansT_full hL'.out (by rw [htl.out]; exact textD_nil _))
            go_wp2_with fail
            go_ret2
            rw [hans.out]
            exact ⟨none, 0, rfl, RowsAt.nil _, hkw.out⟩
          | false =>
            have hans : Hid (ansT s.data.toList = (C, 0)) := Lib.hid (ansT_ok hL'.out (by rw [htl.out]; exact textD_nil _))
            go_wp2_with fail
            go_ret2
            rw [hans.out]
            exact ⟨_, _, rfl, hR.out, hkw.out⟩
end Go.Proofs.YtljfeefhlbgopaaDoor
/- The law's To and From of lines, walked (gen_cgc.py). -/
set_option linter.unusedVariables false
set_option linter.unusedSimpArgs false
namespace Go.Proofs.YtljfeefhlbgopaaDoor
open Go.RowKit

def CopyPost (t : TypeId) (ls : List LineD) (w : World) (e : Ending) (w' : World) : Prop :=
  ∃ p c, e = .returned (.slice p ls.length c) ∧ OwnR t 4 lineVals w w' (.slice p ls.length c) ls ∧ Keeps (fun _ => False) w w'


set_option maxRecDepth 100000 in
set_option maxHeartbeats 4000000 in
theorem from_any (v : Value) (ls : List LineD) (w : World) (hv : Hid (RowsAt 4 lineVals w v ls)) (hl : ls.length ≤ 1000000) :
    Calls Tryd.prog 9 #[v] w (CopyPost 37 ls w) := by
  obtain ⟨p, c, rfl⟩ := hv.out.slice
  obtain ⟨i0, hi0, hi1, hi2, hi3⟩ := line5All
  go_enter Tryd.func9, Tryd.ntmps9
  go_wp2_with fail
  go_loopw [4, 3] (fun iv ov wr => ∃ (k : Nat) (q : Option Addr) (d : Nat), k ≤ ls.length ∧ iv = .int .i64 k ∧ ov = .slice q k d ∧ Hid (OwnR 37 4 lineVals w wr ov (ls.take k)) ∧ Hid (Keeps (fun _ => False) w wr)) (fun iv _ _ => ls.length - (intOf iv).toNat)
  case atStart => exact ⟨0, none, 0, by omega, rfl, rfl, Lib.hid (OwnR.nil _ _ (Nat.le_refl _)), Lib.hid (Keeps.refl _ _)⟩
  case round =>
    obtain ⟨k, qa, d, hk, rfl, rfl, hO, hKw⟩ := hrel
    by_cases hlk : k < ls.length
    · obtain ⟨g, o, rfl, hrows⟩ := hv.out.open (by omega)
      obtain ⟨q, hq⟩ : ∃ q, ls[k]? = some q := ⟨_, List.getElem?_eq_getElem hlk⟩
      obtain ⟨Nq, hN⟩ : ∃ N : ByteArray, N = ⟨q.name.toArray⟩ := ⟨_, rfl⟩
      obtain ⟨Fq, hF⟩ : ∃ N : ByteArray, N = ⟨q.leaf.toArray⟩ := ⟨_, rfl⟩
      obtain ⟨Vq, hV⟩ : ∃ N : ByteArray, N = ⟨q.value.toArray⟩ := ⟨_, rfl⟩
      have hrow : Hid (wr.rangeAt g (o + k * 4) [.int .i64 q.head, .string Nq, .string Fq, .string Vq]) := Lib.hid (by rw [hN, hF, hV]; exact hKw.out.rangeAt (hrows k q hq) id)
      have hgw : Hid (¬ w.heap.size ≤ g) := Lib.hid (by have := World.block_lt_of_cell? w _ (hrows k q hq 0 _ rfl); have h3 : g < w.heap.size := this; omega)
      have hqd : Hid (q = ⟨q.head, Nq.data.toList, Fq.data.toList, Vq.data.toList⟩) := Lib.hid (by rw [hN, hF, hV])
      have hstep : Hid (ls.take (k + 1) = ls.take k ++ [q]) := Lib.hid (by
        obtain ⟨h2, e⟩ := List.getElem?_eq_some_iff.1 hq
        rw [List.take_succ_eq_append_getElem h2, e])
      have htk : Hid ((ls.take k).length = k) := Lib.hid (by rw [List.length_take]; omega)
      have m1 : (0 : Int) ≤ (k : Int) := by omega
      have m2 : (k : Int) < (ls.length : Int) := by omega
      clear hrows hN hF hV hq
      go_upto_region 5 with fail
      refine wp_region_noPanic ?_
      refine wp_region_held_drew (S := (fun W => Keeps (fun i => w.heap.size ≤ i) wr W)) (by kernel_rfl) (((Keeps.refl _ _).drew)) (fun hHeld => ?_)
      refine tk 0 rfl ?_
      refine tk 1 rfl ?_
      refine tk 2 rfl ?_
      refine tk 3 rfl ?_
      refine tk 4 rfl ?_
      refine tkL 5 rfl (yieldsIf_load_cell (by rfl) 3 (.tmp 15) rfl g (o + k * 4 + 0) rfl _ (fun _ s => s.rangeAt hrow.out hgw.out 0 _ rfl) (fun w s => load_int w _ _ _ s)) ?_
      refine tk 6 rfl ?_
      refine tk 7 rfl ?_
      refine tk 8 rfl ?_
      refine tk 9 rfl ?_
      refine tkL 10 rfl (yieldsIf_load_cell (by rfl) 9 (.tmp 20) rfl g (o + k * 4 + 1) rfl _ (fun _ s => s.rangeAt hrow.out hgw.out 1 _ rfl) (fun w s => load_str w _ _ _ s)) ?_
      refine tk 11 rfl ?_
      refine tk 12 rfl ?_
      refine tk 13 rfl ?_
      refine tk 14 rfl ?_
      refine tkL 15 rfl (yieldsIf_load_cell (by rfl) 9 (.tmp 25) rfl g (o + k * 4 + 2) rfl _ (fun _ s => s.rangeAt hrow.out hgw.out 2 _ rfl) (fun w s => load_str w _ _ _ s)) ?_
      refine tk 16 rfl ?_
      refine tk 17 rfl ?_
      refine tk 18 rfl ?_
      refine tk 19 rfl ?_
      refine tkL 20 rfl (yieldsIf_load_cell (by rfl) 9 (.tmp 30) rfl g (o + k * 4 + 3) rfl _ (fun _ s => s.rangeAt hrow.out hgw.out 3 _ rfl) (fun w s => load_str w _ _ _ s)) ?_
      refine tk 21 rfl ?_
      refine stepL 22 rfl (by kernel_rfl) (fun K hK => ?_)
      go_simp
      refine hK.out _ _ ((hHeld.alloc _)) (fun hHeld => ?_)
      clear hK K
      try simp only [Act.put, sA, sZ, sS]
      refine stepL 23 rfl (by kernel_rfl) (fun K hK => ?_)
      rw [if_pos (by rfl)]
      (refine wp_append_r (.tmp 11) (.tmp 33) 27 37 rfl i0 _ 56 Tryd.underlying27 hi0 hi1 hi2 hi3 rfl (by decide) (by decide) lineVals_len w _ k (ls.take k) htk.out rfl (hO.out.keep (((Keeps.refl (fun _ => False) _).drew).alloc _) (fun _ _ f => f)) _ rfl ⟨q.head, Nq.data.toList, Fq.data.toList, Vq.data.toList⟩ (cells_new rfl _ _) (lineVals_one _) (by omega) ?_; intro q8 d8 w8 hO8 hg8; have hO8' := Lib.hid hO8; have hK8 := Lib.hid (OwnR.keeps (hO.out.keep (((Keeps.refl (fun _ => False) _).drew).alloc _) (fun _ _ f => f)) ((hKw.out.drew).alloc _) hg8); have hg8' := Lib.hid (hg8.k.mono (G := fun i => w.heap.size ≤ i) (fun i e => .inl (hO.out.2.1 i e))); clear hO8 hg8)
      refine hK.out _ _ ((hHeld.trans hg8'.out)) (fun hHeld => ?_)
      clear hK K
      try simp only [Act.put, sA, sZ, sS]
      refine tk 24 rfl ?_
      refine wpAnyH_done (by kernel_rfl) (NoPanic.normal ?_) _
      clear hHeld hg8'
      go_wp2_with fail
      exact ⟨⟨k + 1, q8, d8, by omega, by go_num, rfl, by rw [hstep.out, hqd.out]; exact hO8', hK8⟩, by simp [intOf]; omega⟩
    · obtain rfl : k = ls.length := by omega
      rw [List.take_length] at hO
      go_wp2_with fail
      go_ret
      exact ⟨qa, d, rfl, hO.out, hKw.out⟩
end Go.Proofs.YtljfeefhlbgopaaDoor
