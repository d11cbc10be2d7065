/- Of adv's law: tells. -/
import Derived.Test.YtialookpnoaogaaGreatZZ30
import Derived.Test.YtialookpnoaogaaGreatZZ33
import Derived.Test.YtialookpnoaogaaGreatZZ31
import Derived.Test.YtialookpnoaogaaGreatZZ16
import Derived.Test.YtialookpnoaogaaGreatRows
import Derived.Test.YtialookpnoaogaaGreatZZ04
import Derived.ProofKit
import Derived.OpenShut
import Derived.JoinedCond
import Derived.Deep.Grids
import Derived.Deep.Slices
import Derived.ShutString
import Derived.ChangeOld
set_option linter.unusedVariables false
set_option linter.unusedSimpArgs false
set_option linter.unusedVariables false
set_option linter.unusedSimpArgs false
namespace Go.Proofs.YtialookpnoaogaaGreat
open Go.RowKit

def cT : List LineD := [⟨0, [], [114, 111, 117, 116, 101, 114, 45, 105, 100], [57, 46, 57, 46, 57, 46, 57]⟩, ⟨2, [101], [97, 100, 100, 114, 101, 115, 115], [49, 48, 46, 48, 46, 48, 46, 49, 47, 50, 52]⟩, ⟨2, [101], [97, 114, 101, 97], [48, 46, 48, 46, 48, 46, 48]⟩]
theorem cT_ok : rightC cT = true ∧ checkC cT = [] ∧ namesA 2 cT = [[101]] ∧ meOf cT = 151587081 := by decide +kernel
theorem cT_set : (setD cT [101]).two = false ∧ (setD cT [101]).area = 0 ∧ netL15 (setD cT [101]) = ⟨167772160, 4294967040, 3, 10⟩ := by
  refine ⟨by decide +kernel, by decide +kernel, ?_⟩
  have h : (netL15 (setD cT [101])).id = 167772160 ∧ (netL15 (setD cT [101])).data = 4294967040 ∧ (netL15 (setD cT [101])).type = 3 ∧ (netL15 (setD cT [101])).cost = 10 := by decide +kernel
  generalize netL15 (setD cT [101]) = L at h
  obtain ⟨a, b, c, d⟩ := L
  obtain ⟨h1, h2, h3, h4⟩ := h
  simp only at h1 h2 h3 h4
  rw [h1, h2, h3, h4]
theorem cT_rows (w : World) : RowsAt 4 lineVals (w.alloc (.cells (rowCells lineVals cT).toArray 79)) (.slice (some ⟨w.heap.size, 0, none⟩) 3 3) cT :=
  ⟨_, _, rfl, (fun e => by cases e), Nat.le_refl _, fun _ => ⟨_, _, rfl, fun i x hx j u hu => by
    have hc := (BlkAt.new w 79 (rowCells lineVals cT)).range (i * 4 + j) u (by rw [rowCells_get lineVals_len cT i x hx j (by have := (List.getElem?_eq_some_iff.1 hu).1; rw [lineVals_len] at this; exact this)]; exact hu)
    rw [Nat.zero_add] at hc ⊢
    exact hc⟩⟩
set_option maxRecDepth 100000 in
set_option maxHeartbeats 8000000 in
theorem tells_yes (w : World) : Calls Tryz.prog 10 #[] w (NewRes (.bool true) w) := by
  have hrows := Lib.hid (cT_rows w)
  have e0 : (rowCells lineVals cT).toArray = #[.int .i64 0, .string ⟨#[]⟩, .string ⟨#[114, 111, 117, 116, 101, 114, 45, 105, 100]⟩, .string ⟨#[57, 46, 57, 46, 57, 46, 57]⟩, .int .i64 2, .string ⟨#[101]⟩, .string ⟨#[97, 100, 100, 114, 101, 115, 115]⟩, .string ⟨#[49, 48, 46, 48, 46, 48, 46, 49, 47, 50, 52]⟩, .int .i64 2, .string ⟨#[101]⟩, .string ⟨#[97, 114, 101, 97]⟩, .string ⟨#[48, 46, 48, 46, 48, 46, 48]⟩] := rfl
  rw [e0] at hrows
  clear e0
  have hk0 : Hid (Keeps (fun _ => False) w (w.alloc (.cells #[.int .i64 0, .string ⟨#[]⟩, .string ⟨#[114, 111, 117, 116, 101, 114, 45, 105, 100]⟩, .string ⟨#[57, 46, 57, 46, 57, 46, 57]⟩, .int .i64 2, .string ⟨#[101]⟩, .string ⟨#[97, 100, 100, 114, 101, 115, 115]⟩, .string ⟨#[49, 48, 46, 48, 46, 48, 46, 49, 47, 50, 52]⟩, .int .i64 2, .string ⟨#[101]⟩, .string ⟨#[97, 114, 101, 97]⟩, .string ⟨#[48, 46, 48, 46, 48, 46, 48]⟩] 79))) := Lib.hid ((Keeps.refl _ _).alloc _)
  go_enter Tryz.func10, Tryz.ntmps10
  go_wp2_with fail
  generalize (w.alloc (.cells #[.int .i64 0, .string ⟨#[]⟩, .string ⟨#[114, 111, 117, 116, 101, 114, 45, 105, 100]⟩, .string ⟨#[57, 46, 57, 46, 57, 46, 57]⟩, .int .i64 2, .string ⟨#[101]⟩, .string ⟨#[97, 100, 100, 114, 101, 115, 115]⟩, .string ⟨#[49, 48, 46, 48, 46, 48, 46, 49, 47, 50, 52]⟩, .int .i64 2, .string ⟨#[101]⟩, .string ⟨#[97, 114, 101, 97]⟩, .string ⟨#[48, 46, 48, 46, 48, 46, 48]⟩] 79)) = W0 at hrows hk0 ⊢
  obtain ⟨k1, k2, k3, k4⟩ := cT_ok
  obtain ⟨k5, k6, k7⟩ := cT_set
  refine (advAll_one _ cT [101] _ 151587081 _ hrows (Lib.hid k1) (Lib.hid k2) (Lib.hid k3) (Lib.hid rfl) (Lib.hid k5) (by rw [k6]; omega) (Lib.hid k4)).mono ?_
  rintro e w1 ⟨p, c, e1, rfl, hR, f1, f2, f3, f4, f5, f6, f7, f8, f9, hL, hk⟩
  rw [k7] at hL
  rw [k6] at f1
  clear k1 k2 k3 k4 k5 k6 k7
  obtain ⟨area, type, id, me, p5, n5, c5, mask, p7, n7, c7⟩ := e1
  simp only at f1 f2 f3 f4 f5 f6 f7 f8 f9 hL
  subst f1 f2 f3 f4 f5 f6 f7 f8 f9
  obtain ⟨g, o, rfl, hrow0⟩ := hR.open (by simp)
  have hrow1 := hrow0 0 _ rfl
  rw [Nat.zero_mul, Nat.add_zero] at hrow1
  have hrow : Hid (w1.rangeAt g (o + 1) [.int .i64 0, .int .i64 1, .int .u32 (151587081 : Nat), .int .u32 (151587081 : Nat), .int .i64 (-2147483647), .slice p5 1 c5, .int .u32 (0 : Nat), .slice none 0 0, .int .i64 0]) := Lib.hid (fun j u hu => by
    have := hrow1 (1 + j) u (by rw [Nat.add_comm]; exact hu)
    rw [← Nat.add_assoc] at this
    exact this)
  have hL1 := Lib.hid hL
  have hk1 := Lib.hid (hk0.out.trans hk)
  clear hrow0 hrow1 hR hL hk hk0 hrows
  go_wp2_with ((with_reducible refine at_slot 24 ?_); refine wpList_load_mid_gd rfl 75 (.tmp 23) rfl g (o + 1) rfl [.int .i64 0, .int .i64 1, .int .u32 (151587081 : Nat), .int .u32 (151587081 : Nat), .int .i64 (-2147483647), .slice p5 1 c5, .int .u32 (0 : Nat), .slice none 0 0, .int .i64 0] _ hrow.out Tryz.underlying75 rfl lsaInfo15 ?_)
  have hN1 : Hid (NumsAt w1 (.slice none ([] : List Nat).length 0) []) := Lib.hid (NumsAt.nil _)
  refine (lwFrom_any 0 1 (-2147483647) 0 151587081 151587081 0 [⟨167772160, 4294967040, 3, 10⟩] [] p5 none c5 0 w1 (Lib.hid hL1.out) hN1 (by decide) (by decide)).mono ?_
  rintro e w2 ⟨⟨p5', c5', p7', c7', rfl, hL2, hN2⟩, hk2⟩
  have hk2' := Lib.hid (hk1.out.trans hk2)
  have hBk := BlkAt.new w2 98 (linkVals ⟨167772160, 4294967040, 3, 10⟩)
  have hkb := (Keeps.refl (fun _ => False) w2).alloc (.cells (linkVals ⟨167772160, 4294967040, 3, 10⟩).toArray 98)
  have hL3 := Lib.hid (hL2.keep hkb)
  have hN3 := Lib.hid (hN2.keep hkb)
  have hM3 : Hid (LinksAt (w2.alloc (.cells (linkVals ⟨167772160, 4294967040, 3, 10⟩).toArray 98)) (.slice (some ⟨w2.heap.size, 0, none⟩) 1 1) [⟨167772160, 4294967040, 3, 10⟩]) := Lib.hid ⟨_, _, rfl, (fun e => by cases e), Nat.le_refl _, fun _ => ⟨_, _, rfl, fun i x hx => by
    have hi0 : i = 0 := by have := (List.getElem?_eq_some_iff.1 hx).1; simp at this; omega
    subst hi0
    injection hx with hx
    subst hx
    exact hBk.range⟩⟩
  have hkc := Lib.hid (hk2'.out.alloc (.cells (linkVals ⟨167772160, 4294967040, 3, 10⟩).toArray 98))
  have hN4 : Hid (NumsAt (w2.alloc (.cells (linkVals ⟨167772160, 4294967040, 3, 10⟩).toArray 98)) (.slice none ([] : List Nat).length 0) []) := Lib.hid (NumsAt.nil _)
  clear hBk hkb hN1 hL2 hN2 hk2 hk2' hk1
  go_wp2_with fail
  refine (r10Alike_any 0 1 (-2147483647) 0 0 1 0 0 151587081 151587081 0 151587081 151587081 0 [⟨167772160, 4294967040, 3, 10⟩] [⟨167772160, 4294967040, 3, 10⟩] [] [] p5' p7' (some ⟨w2.heap.size, 0, none⟩) none c5' c7' 1 0 true _ (by decide) (by decide) (by decide) (by decide) hL3 hM3 hN3 hN4 (Lib.hid (by decide +kernel))).mono ?_
  rintro e w3 ⟨rfl, hk3⟩
  have hk3' := Lib.hid (hkc.out.trans hk3)
  clear hL3 hM3 hN3 hN4 hkc hk3
  go_wp2_with fail
  go_ret
  exact ⟨rfl, hk3'.out⟩
end Go.Proofs.YtialookpnoaogaaGreat
/- AdvSettings, walked. -/
set_option linter.unusedVariables false
set_option linter.unusedSimpArgs false
namespace Go.Proofs.YtialookpnoaogaaGreat
open Go.RowKit

theorem set_split (s : SetD) : ∃ (area addr mask cost hello dead again prio : Nat) (two : Bool) (A : ByteArray), setVals s = [.int .u32 area, .int .u32 addr, .int .u32 mask, .int .i64 cost, .int .i64 hello, .int .i64 dead, .int .i64 again, .int .i64 prio, .bool two, .string A] := ⟨_, _, _, _, _, _, _, _, _, _, rfl⟩
theorem set_one (a b c d e f g h : Nat) (t : Bool) (A : ByteArray) : (#[.int .u32 a, .int .u32 b, .int .u32 c, .int .i64 d, .int .i64 e, .int .i64 f, .int .i64 g, .int .i64 h, .bool t, .string A] : Array Value).all (·.oneCell') = true := by
  simp; exact ⟨rfl, rfl, rfl, rfl, rfl, rfl, rfl, rfl, rfl, rfl⟩
set_option maxRecDepth 100000 in
set_option maxHeartbeats 8000000 in
theorem advSettings_law (v : Value) (ls : List LineD) (n : List UInt8) (w : World) (hv : Hid (RowsAt 4 lineVals w v ls)) (hl : ls.length ≤ 1000000000000) (hlt : Hid (LinesLt ls 8796093022000)) :
    Calls Tryz.prog 4 #[v, strv n] w (NewRes (.bool true) w) := by
  obtain ⟨p, c, rfl⟩ := hv.out.slice
  have hr0 := build_right ls
  have hb := Lib.hid (build_any _ ls w hv hl hlt)
  generalize buildC ls = L at hr0 hb
  have hr := Lib.hid hr0
  have hlen := right_len hr0
  have hA := Lib.hid (fun v W (h : Hid (RowsAt 4 lineVals W v L)) => advSettings_c v L n W h hr)
  have hD := Lib.hid (fun v W (h : Hid (RowsAt 4 lineVals W v L)) => ref15Settings_c v L n W h hr)
  obtain ⟨N, hN⟩ : ∃ N : ByteArray, (⟨n.toArray⟩ : ByteArray) = N := ⟨_, rfl⟩
  obtain ⟨S, f⟩ : ∃ S, S = setRes L n := ⟨_, rfl⟩
  rw [← f] at hA hD
  clear f
  obtain ⟨S, f⟩ := S
  simp only at hA hD
  obtain ⟨area, addr, mask, cost, hello, dead, again, prio, two, A, hS⟩ := set_split S
  rw [hS] at hA hD
  unfold strv at hA hD ⊢
  rw [hN] at hA hD ⊢
  clear hr0 hlt hS hN
  go_enter Tryz.func4, Tryz.ntmps4
  go_wp2_with fail
  refine hb.out.mono ?_
  rintro e w1 ⟨p1, c1, rfl, hX, k1⟩
  have hC1 := Lib.hid (hX.at lineVals_len)
  have hk1 := Lib.hid k1
  clear hX k1 hb hv
  go_wp2_with fail
  refine (to_any _ L _ hC1 (by omega)).mono ?_
  rintro e w2 ⟨p2, c2, rfl, hX, k2⟩
  have hT2 := Lib.hid (hX.at lineVals_len)
  have hC2 := Lib.hid (hC1.out.keep k2)
  have hk2 := Lib.hid (hk1.out.trans k2)
  clear hX k2 hC1 hk1
  go_wp2_with fail
  refine (hA.out _ _ hT2).mono ?_
  rintro e w3 ⟨rfl, k3⟩
  have k3' := k3.alloc (.cells #[.int .u32 area, .int .u32 addr, .int .u32 mask, .int .i64 cost, .int .i64 hello, .int .i64 dead, .int .i64 again, .int .i64 prio, .bool two, .string A] 45)
  have hC3 := Lib.hid (hC2.out.keep k3')
  have hB3 := Lib.hid (BlkAt.new w3 45 [.int .u32 area, .int .u32 addr, .int .u32 mask, .int .i64 cost, .int .i64 hello, .int .i64 dead, .int .i64 again, .int .i64 prio, .bool two, .string A])
  have hk3 := Lib.hid (hk2.out.trans k3')
  clear k3 k3' hC2 hk2 hT2 hA
  go_upto_region 3 with ((with_reducible refine at_store 6 ?_); refine wpList_store_new rfl 45 (.tmp 6) (.tmp 17) rfl _ #[.int .u32 area, .int .u32 addr, .int .u32 mask, .int .i64 cost, .int .i64 hello, .int .i64 dead, .int .i64 again, .int .i64 prio, .bool two, .string A] rfl rfl setInfo rfl (set_one _ _ _ _ _ _ _ _ _ _) ?_)
  obtain ⟨b6, hb6⟩ : ∃ b, w3.heap.size = b := ⟨_, rfl⟩
  rw [hb6] at hB3 ⊢
  generalize w3.alloc (.cells [.int .u32 area, .int .u32 addr, .int .u32 mask, .int .i64 cost, .int .i64 hello, .int .i64 dead, .int .i64 again, .int .i64 prio, .bool two, .string A].toArray 45) = W3 at hB3 hC3 hk3 ⊢
  clear hb6
  go_wp2_with fail
  refine (hD.out _ _ hC3).mono ?_
  rintro e w4 ⟨rfl, k4⟩
  have k4' := k4.alloc (.cells #[.int .u32 area, .int .u32 addr, .int .u32 mask, .int .i64 cost, .int .i64 hello, .int .i64 dead, .int .i64 again, .int .i64 prio, .bool two, .string A] 48)
  have hB4 := Lib.hid (hB3.out.keep k4' id)
  have hD4 := Lib.hid (BlkAt.new w4 48 [.int .u32 area, .int .u32 addr, .int .u32 mask, .int .i64 cost, .int .i64 hello, .int .i64 dead, .int .i64 again, .int .i64 prio, .bool two, .string A])
  have hk4 := Lib.hid (hk3.out.trans k4')
  clear k4 k4' hC3 hk3 hB3 hD
  go_upto_region 4 with ((with_reducible refine at_store 8 ?_); refine wpList_store_new rfl 48 (.tmp 8) (.tmp 23) rfl _ #[.int .u32 area, .int .u32 addr, .int .u32 mask, .int .i64 cost, .int .i64 hello, .int .i64 dead, .int .i64 again, .int .i64 prio, .bool two, .string A] rfl rfl ref15Info rfl (set_one _ _ _ _ _ _ _ _ _ _) ?_)
  obtain ⟨b8, hb8⟩ : ∃ b, w4.heap.size = b := ⟨_, rfl⟩
  rw [hb8] at hD4 ⊢
  generalize w4.alloc (.cells [.int .u32 area, .int .u32 addr, .int .u32 mask, .int .i64 cost, .int .i64 hello, .int .i64 dead, .int .i64 again, .int .i64 prio, .bool two, .string A].toArray 48) = W4 at hB4 hD4 hk4 ⊢
  clear hb8
  go_wp2_with fail
  refine (tells_yes _).mono ?_
  rintro e w5 ⟨rfl, k5⟩
  have hB5 := Lib.hid (hB4.out.keep k5 id)
  have hD5 := hD4.out.keep k5 id
  have hk5 := Lib.hid (hk4.out.trans k5)
  have c0 := hD5.cell 0 _ rfl
  have c1 := hD5.cell 1 _ rfl
  have c2 := hD5.cell 2 _ rfl
  have c3 := hD5.cell 3 _ rfl
  have c4 := hD5.cell 4 _ rfl
  have c5 := hD5.cell 5 _ rfl
  have c6 := hD5.cell 6 _ rfl
  have c7 := hD5.cell 7 _ rfl
  have c8 := hD5.cell 8 _ rfl
  have c9 := hD5.cell 9 _ rfl
  clear hB4 hD4 hk4 k5 hD5
  go_wp2_with ((with_reducible refine at_slot 32 ?_); refine wpList_load_mid_gd rfl 45 (.tmp 6) rfl b6 0 rfl [.int .u32 area, .int .u32 addr, .int .u32 mask, .int .i64 cost, .int .i64 hello, .int .i64 dead, .int .i64 again, .int .i64 prio, .bool two, .string A] _ hB5.out.range Tryz.underlying45 rfl setInfo ?_)
  go_ret
  exact ⟨rfl, hk5.out⟩
end Go.Proofs.YtialookpnoaogaaGreat
/- Lines of the document that came in, of a bulk that is bounded. -/
set_option linter.unusedVariables false
set_option linter.unusedSimpArgs false
namespace Go.Proofs.YtialookpnoaogaaGreat
open Go.ChangeShapes Go.WideShapes Go.ChangeAt Go.RowKit Go.Deep

theorem bulk_part {H : Type} {d : DataW H} {l : List (DataW H)} (h : d ∈ l) : Rows.uptoBulk d ≤ Rows.uptoBulkAll l := by
  induction l with
  | nil => cases h
  | cons x r ih =>
    simp only [Rows.uptoBulkAll]
    rcases List.mem_cons.1 h with e | e
    · subst e; omega
    · have := ih e; omega
theorem bulk_len {H : Type} (l : List (DataW H)) : l.length ≤ Rows.uptoBulkAll l := by
  induction l with
  | nil => simp [Rows.uptoBulkAll]
  | cons x r ih =>
    have h1 : 1 ≤ Rows.uptoBulk x := by
      cases x with
      | lit l => cases l <;> simp [Rows.uptoBulk]
      | _ => simp [Rows.uptoBulk]
    simp only [Rows.uptoBulkAll, List.length_cons]; omega
theorem listX4 {α : Type} {l : List α} (h : l.length = 4) : ∃ a b c d, l = [a, b, c, d] := by
  match l, h with
  | [a, b, c, d], _ => exact ⟨a, b, c, d, rfl⟩
theorem cxInt : Tryz.prog.cellsOf 3 = 1 := by kernel_rfl
theorem cxStr : Tryz.prog.cellsOf 9 = 1 := by kernel_rfl
theorem cxLine : Tryz.prog.cellsOf 55 = 4 := by kernel_rfl
theorem choose_l {α : Type} (n : Nat) (P : Nat → α → Prop) (h : ∀ i, i < n → ∃ a, P i a) : ∃ l : List α, l.length = n ∧ ∀ i a, l[i]? = some a → P i a := by
  induction n with
  | zero => exact ⟨[], rfl, fun i a e => by simp at e⟩
  | succ n ih =>
    obtain ⟨l, hl, hP⟩ := ih (fun i hi => h i (by omega))
    obtain ⟨a, ha⟩ := h n (by omega)
    refine ⟨l ++ [a], by simp [hl], fun i b e => ?_⟩
    by_cases hi : i < l.length
    · rw [List.getElem?_append_left hi] at e; exact hP i b e
    · rw [List.getElem?_append_right (by omega)] at e
      have : i = n := by have := (List.getElem?_eq_some_iff.1 e).1; simp at this; omega
      subst this
      rw [hl, Nat.sub_self] at e
      injection e with e; subst e; exact ha
section
variable {H : Type} {enc : TypeId × Value → H} {W : World}
set_option maxRecDepth 100000 in
theorem line_came {fuel : Nat} {cs : List Value} {x : DataW H × List MemPlace} {M : Nat} (hl : cs.length = 4) (h : DataW.trod enc Tryz.prog W 0 (fun _ => true) true fuel 55 cs = some x) (hM : Rows.uptoBulk x.1 ≤ M) :
    ∃ l : LineD, (l.name.length ≤ M ∧ l.leaf.length ≤ M ∧ l.value.length ≤ M) ∧ cs = lineVals l := by
  obtain ⟨c0, c1, c2, c3, rfl⟩ := listX4 hl
  obtain ⟨xs, n, -, hx, -, hlen, hf⟩ := DataW.trod_struct Tryz.underlying55 h
  obtain ⟨y0, y1, y2, y3, rfl⟩ := listX4 hlen
  have f0 : DataW.trod enc Tryz.prog W 0 (fun _ => true) true n 3 ((([c0, c1, c2, c3] : List Value).drop 0).take (Tryz.prog.cellsOf 3)) = some y0 := hf 0 _ rfl
  rw [cxInt] at f0
  have f1 : DataW.trod enc Tryz.prog W 0 (fun _ => true) true n 9 ((([c0, c1, c2, c3] : List Value).drop 1).take (Tryz.prog.cellsOf 9)) = some y1 := hf 1 _ rfl
  rw [cxStr] at f1
  have f2 : DataW.trod enc Tryz.prog W 0 (fun _ => true) true n 9 ((([c0, c1, c2, c3] : List Value).drop 2).take (Tryz.prog.cellsOf 9)) = some y2 := hf 2 _ rfl
  rw [cxStr] at f2
  have f3 : DataW.trod enc Tryz.prog W 0 (fun _ => true) true n 9 ((([c0, c1, c2, c3] : List Value).drop 3).take (Tryz.prog.cellsOf 9)) = some y3 := hf 3 _ rfl
  rw [cxStr] at f3
  obtain ⟨n0, e0, -, w0⟩ := DataW.trod_int Tryz.underlying3 f0
  obtain ⟨N, e1, r1, -⟩ := DataW.trod_string Tryz.underlying9 f1
  obtain ⟨F, e2, r2, -⟩ := DataW.trod_string Tryz.underlying9 f2
  obtain ⟨V, e3, r3, -⟩ := DataW.trod_string Tryz.underlying9 f3
  injection e0 with e0 _; injection e1 with e1 _; injection e2 with e2 _; injection e3 with e3 _
  subst e0; subst e1; subst e2; subst e3
  subst r1; subst r2; subst r3
  subst hx
  simp only [List.map_cons, List.map_nil, Rows.uptoBulk, Rows.uptoBulkAll] at hM
  exact ⟨⟨n0, N.data.toList, F.data.toList, V.data.toList⟩, ⟨by show N.data.toList.length ≤ M; omega, by show F.data.toList.length ≤ M; omega, by show V.data.toList.length ≤ M; omega⟩, rfl⟩
theorem lines_came {fuel : Nat} {x0 : Value} {x : DataW H × List MemPlace} {M : Nat} (h : DataW.trod enc Tryz.prog W 0 (fun _ => true) true fuel 22 [x0] = some x) (hM : Rows.uptoBulk x.1 ≤ M) :
    ∃ (ls : List LineD) (p : Option Addr) (c : Nat), x0 = .slice p ls.length c ∧ RowsAt 4 lineVals W (.slice p ls.length c) ls ∧ LinesLt ls M ∧ ls.length ≤ M := by
  rcases Go.Deep.open_slice Tryz.underlying22 h with ⟨hcs, -⟩ | ⟨a, len, cap, m, n, D, Pl, hcs, -, hlc, hm, hmm, hx, hall⟩
  · injection hcs with hcs _; subst hcs
    exact ⟨[], none, 0, rfl, RowsAt.nil _, (fun l hl => by cases hl), by simp⟩
  · injection hcs with hcs _; subst hcs
    simp only [if_true] at hmm
    subst hmm
    subst hx
    simp only [Rows.uptoBulk] at hM
    have hex : ∀ i, i < len → ∃ l : LineD, (l.name.length ≤ M ∧ l.leaf.length ≤ M ∧ l.value.length ≤ M) ∧ ∀ j, j < 4 → W.cell? ((a.add (i * 4)).add j) = (lineVals l)[j]? := fun i hi => by
      obtain ⟨cs', h1, h2⟩ := hall i (by omega)
      rw [cxLine] at h1
      obtain ⟨-, hl, hc⟩ := World.cells?_some h1
      obtain ⟨l, hok, rfl⟩ := line_came (M := M) hl h2 (Nat.le_trans (bulk_part (List.mem_map.2 ⟨i, List.mem_range.2 hi, rfl⟩)) (by omega))
      exact ⟨l, hok, hc⟩
    have hlenM : len ≤ M := by
      have h1 := bulk_len ((List.range len).map D)
      rw [List.length_map, List.length_range] at h1
      omega
    obtain ⟨ls, hlen2, hls⟩ := choose_l len _ hex
    refine ⟨ls, some a, m, by rw [hlen2], ⟨some a, m, rfl, (fun e => nomatch e), by rw [hlen2]; exact hlc, fun h0 => ?_⟩, fun l hl => ?_, by rw [hlen2]; exact hlenM⟩
    · obtain ⟨b, o, s⟩ := a
      have h00 := (hls 0 ls[0] (List.getElem?_eq_getElem h0)).2 0 (by omega)
      have hsn : s = none := by simpa [Addr.add] using World.cell?_spot (h00.trans (show (lineVals ls[0])[0]? = some (.int .i64 ls[0].head) from rfl))
      subst hsn
      refine ⟨b, o, rfl, fun i l hl j u hu => ?_⟩
      have hj : j < 4 := by have := (List.getElem?_eq_some_iff.1 hu).1; simpa [lineVals] using this
      have := (hls i l hl).2 j hj
      rw [hu, Addr.add_mid, Addr.add_mid] at this
      exact this
    · obtain ⟨i, hi, rfl⟩ := List.mem_iff_getElem.1 hl
      exact (hls i _ (List.getElem?_eq_getElem hi)).1
end
end Go.Proofs.YtialookpnoaogaaGreat
/- AdvSettings, proved in its second form: of all configurations and names an interface's numbers are told, for every input whose bulk is at most 1048576. -/
set_option linter.unusedVariables false
namespace Go.Proofs.YtialookpnoaogaaGreat
open Go.ChangeShapes Go.WideShapes Go.ChangeAt Go.RowKit Go.WideMaps Go.Deep
open Go.ChangeMaps (open_string)
namespace advSettingsProof
theorem own : ownKnob Tryz.prog.godebug = none := by kernel_rfl
theorem laidOut : laidOutB Tryz.prog = true := by kernel_rfl
theorem bound {H : Type} {l : List (DataW H)} (hk : Rows.uptoSmall H l = true) : Rows.uptoBulkAll l ≤ 1048576 := by
  simpa [Rows.uptoSmall] using hk
set_option maxRecDepth 100000 in
theorem contract (H : Type) (enc : TypeId × Value → H) (W : World) (base : Nat) (args : Array Value) (ds gs : List (DataW H)) (before : List MemPlace)
    (hval : ∀ (j : Nat) t v, Tryz.f4.params[j]? = some t → args[j]? = some v → Value.okWide Tryz.prog W .any base t v)
    (hW : DataW.Whole enc Tryz.prog Tryz.f4.params.toList Rows.advSettingsSpec.vars false W args.toList ds gs before) (hk : Rows.uptoSmall H (ds ++ gs) = true) :
    Calls Tryz.prog 4 args W fun e W' => ∃ v, e = .returned v ∧ Rows.advSettingsSpec.post enc Tryz.prog Tryz.f4 false true false false W args v W' := by
  have hW' := hW
  obtain ⟨p, q, hA0, hV, rfl, hfz, hnd⟩ := hW
  have hA : DataW.TrodAll enc Tryz.prog W 0 (fun _ => true) true Tryz.f4.params.toList args.toList ds p := hA0
  rw [Tryz.params4] at hA hval
  obtain ⟨v0, vs0, d0, ds0, p0, q0, hargs, rfl, rfl, h0, r0⟩ := trodAll_cons hA
  obtain ⟨v1, vs1, d1, ds1, p1, q1, rfl, rfl, rfl, h1, r1⟩ := trodAll_cons r0
  obtain ⟨rfl, rfl, rfl⟩ := trodAll_nil r1
  obtain rfl : args = #[v0, v1] := by cases args; simp_all
  obtain ⟨rfl, rfl⟩ := trodVars_none hV
  have k0 := h0
  have k1 := h1
  have hb := bound hk
  simp only [List.append_nil, Rows.uptoBulkAll] at hb
  have lt0 : ∀ x ∈ p0, x.block < W.heap.size := by obtain ⟨m, hm⟩ := k0; exact DataW.trod_lt m _ _ _ hm
  have lt1 : ∀ x ∈ p1, x.block < W.heap.size := by obtain ⟨m, hm⟩ := k1; exact DataW.trod_lt m _ _ _ hm
  obtain ⟨sa, sl, sc, rfl⟩ := okWide_slice Tryz.underlying22 (hval 0 22 v0 rfl rfl)
  obtain ⟨m0, hm0⟩ := h0
  obtain ⟨ls, pz, cz, hvz, hrows, hlt, hlen⟩ := lines_came (M := 1048576) (show DataW.trod enc Tryz.prog W 0 (fun _ => true) true m0 22 [.slice sa sl sc] = some (d0, p0) from hm0) (by simp only; omega)
  rw [hvz] at hW' k0 hA0 ⊢
  obtain ⟨a1, rfl, rfl, rfl, w1⟩ := open_string Tryz.underlying9 (hval 1 9 v1 rfl rfl) h1
  clear hA0
  simp only [List.append_nil] at hW'
  refine (show Calls Tryz.prog 4 #[.slice pz ls.length cz, .string a1] W (NewRes (.bool true) W) from advSettings_law (.slice pz ls.length cz) ls a1.data.toList W (Lib.hid hrows) (by omega) (Lib.hid (fun l hl => by have h := hlt l hl; omega))).mono fun e W' ⟨he, hke⟩ => ?_
  have bel := hke.below (Nat.le_refl _) (fun _ f => f.elim)
  subst he
  exact ⟨_, rfl, _, _, _, [], _, [], hW', trodAll_mk1 (shut_bool Tryz.underlying4 _), (trodAll_cons_mk (Below.trod laidOut (by kernel_rfl) (of_decide_eq_true (by kernel_rfl)) k0 bel lt0) (trodAll_cons_mk (Below.trod laidOut (by kernel_rfl) (of_decide_eq_true (by kernel_rfl)) k1 bel lt1) trodAll_mk0)), rfl, bel.frame _, fun h => by cases h⟩
set_option maxRecDepth 100000 in
theorem lifted (os : Os) (started : os.Started) (H : Type) (enc : TypeId × Value → H) (F : Stop.Interp) :
    ReturnsInHanded {} Tryz.checked os 4 .any ((Rows.OpenSpec.upto Rows.advSettingsSpec).pre6 enc Tryz.prog Tryz.f4 Rows.advSettingsUptoRow.domain false) (((Rows.OpenSpec.upto Rows.advSettingsSpec).at F).post enc Tryz.prog Tryz.f4 false true false false) := by
  refine returnsInHanded_of_cond (C := Tryz.checked) (s := Rows.OpenSpec.upto Rows.advSettingsSpec) (k := Rows.uptoSmall) rfl own started (by kernel_rfl) Tryz.func4
    (OpenSpec.witness (enc := enc) (C := Tryz.checked) (s := Rows.OpenSpec.upto Rows.advSettingsSpec) (k := Rows.uptoSmall) rfl false ⟨#[], #[.slice none 0 0, .string ByteArray.empty], []⟩ 8 (by kernel_rfl) (by kernel_rfl) (by kernel_rfl)
      (x := ([.nil, .lit (.string [])], [], [])) (by kernel_rfl) rfl (by kernel_rfl)) ?_
  intro W base args ds gs before hval hW _ hk _
  exact contract H enc W base args ds gs before hval hW hk
theorem over : Rows.advSettingsUptoRow.holds Tryz.pinned (Rows.OpenSpec.upto Rows.advSettingsSpec) :=
  OpenClaim.holds_of_cond 4 Tryz.f4 rfl rfl rfl rfl rfl rfl rfl ⟨rfl, rfl, rfl, rfl, rfl⟩ rfl rfl rfl rfl rfl (by kernel_rfl) Tryz.func4 (by kernel_rfl)
    (of_decide_eq_true (by kernel_rfl)) (by unfold Func.isWrapper; first | (rw [if_pos (by decide +kernel)]; kernel_rfl) | (rw [if_neg (by decide +kernel)]; exact ⟨rfl, rfl⟩))
    (fun os started H enc _ F => lifted os started H enc F)
end advSettingsProof
theorem advSettingsUpto_holds : Rows.AdvSettingsUptoSaid := advSettingsProof.over
end Go.Proofs.YtialookpnoaogaaGreat
