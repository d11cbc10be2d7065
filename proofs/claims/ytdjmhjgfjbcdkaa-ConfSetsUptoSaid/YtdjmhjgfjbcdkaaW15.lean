/- ConfSets, walked: rows of lines set or deleted on both sides (gen_chb.py). -/
import Derived.Test.YtdjmhjgfjbcdkaaW13
import Derived.Test.YtdjmhjgfjbcdkaaW14
import Derived.Test.YtdjmhjgfjbcdkaaRows
import Derived.ProofKit
import Derived.OpenShut
import Derived.ShutString
import Derived.ChangeOld
import Derived.JoinedCond
import Derived.Deep.Grids
set_option linter.unusedVariables false
set_option linter.unusedSimpArgs false
namespace Go.Proofs.Ytdjmhjgfjbcdkaa
open Go.RowKit

def iv64 (x : Int) : Value := .int .i64 x
/-- a slice of ints reads as these -/
def IntsAt (w : World) (v : Value) (xs : List Int) : Prop :=
  ∃ p c, v = .slice p xs.length c ∧ (p = none → c = 0) ∧ xs.length ≤ c ∧ (0 < xs.length → ∃ b o, p = some ⟨b, o, none⟩ ∧ w.rangeAt b o (xs.map iv64))
def lawEndC (w : World) (e : Ending) (w' : World) : Prop := e = .returned (.bool true) ∧ Keeps (fun _ => False) w w'
def SideC (w0 w : World) (cv wv : Value) (B : List LineD) : Prop := RowsAt 4 lineVals w cv B ∧ RowsAt 4 lineVals w wv B ∧ rightC B = true ∧ Keeps (fun _ => False) w0 w
theorem SideC.keep {w0 w w' : World} {cv wv : Value} {B : List LineD} (h : SideC w0 w cv wv B) (k : Keeps (fun _ => False) w w') : SideC w0 w' cv wv B := ⟨h.1.keep k, h.2.1.keep k, h.2.2.1, h.2.2.2.trans k⟩

set_option maxRecDepth 100000 in
set_option maxHeartbeats 32000000 in
theorem confSets_law (v dv : Value) (ls : List LineD) (ds : List Int) (w : World) (hv : Hid (RowsAt 4 lineVals w v ls)) (hd : Hid (IntsAt w dv ds)) (hl : ls.length ≤ 1000000000000) (hl2 : ds.length ≤ 9223372036854775807) (hlt : Hid (LinesLt ls 8796093022000)) :
    Calls Try.prog 3 #[v, dv] w (lawEndC w) := by
  obtain ⟨p, c, rfl, -, hcap, hrw0⟩ := hv.out
  obtain ⟨p2, c2, rfl, -, hcap2, hrd0⟩ := hd.out
  have hrw := Lib.hid hrw0; have hrd := Lib.hid hrd0
  clear hrw0 hrd0 hv hd
  go_enter Try.func3, Try.ntmps3
  go_wp2_with fail
  go_loopw [7, 5, 6] (fun iv cv wv wr => ∃ (k : Nat) (B : List LineD) (q : Option Addr) (d : Nat) (q2 : Option Addr) (d2 : Nat), k ≤ ls.length ∧ k ≤ 80 ∧ iv = .int .i64 k ∧ cv = .slice q B.length d ∧ wv = .slice q2 B.length d2 ∧ Hid (SideC w wr (.slice q B.length d) (.slice q2 B.length d2) B)) (fun iv _ _ _ => 80 - (intOf iv).toNat)
  case atStart => exact ⟨0, [], none, 0, none, 0, by omega, by omega, rfl, rfl, rfl, Lib.hid ⟨RowsAt.nil _, RowsAt.nil _, by decide +kernel, Keeps.refl _ _⟩⟩
  case round =>
    obtain ⟨k, B, qc, dc, qw, dw, hk, hk2, rfl, rfl, rfl, hS⟩ := hrel
    have hlen := right_len hS.out.2.2.1
    by_cases hlk : k < ls.length
    · by_cases h80 : k < 80
      · obtain ⟨g, o, rfl, hrows⟩ := hrw.out (by omega)
        obtain ⟨q, hq⟩ : ∃ q, ls[k]? = some q := ⟨_, List.getElem?_eq_getElem hlk⟩
        have hsz := hlt.out q (List.mem_of_getElem? hq)
        obtain ⟨N, hN⟩ : ∃ N : ByteArray, N = ⟨q.name.toArray⟩ := ⟨_, rfl⟩
        obtain ⟨F, hF⟩ : ∃ N : ByteArray, N = ⟨q.leaf.toArray⟩ := ⟨_, rfl⟩
        obtain ⟨V, hV⟩ : ∃ N : ByteArray, N = ⟨q.value.toArray⟩ := ⟨_, rfl⟩
        have sN : N.size ≤ 8796093022000 := by rw [hN]; exact hsz.1
        have sV : V.size ≤ 8796093022000 := by rw [hV]; exact hsz.2.2
        have hrow0 : Hid (w.rangeAt g (o + k * 4) [.int .i64 q.head, .string N, .string F, .string V]) := Lib.hid (by rw [hN, hF, hV]; exact hrows k q hq)
        have hqd : Hid (q = ⟨q.head, N.data.toList, F.data.toList, V.data.toList⟩) := Lib.hid (by rw [hN, hF, hV])
        have m1 : (0 : Int) ≤ (k : Int) := by omega
        have m2 : (k : Int) < (ls.length : Int) := by omega
        have hone0 : Hid (RowsAt 4 lineVals w (.slice (some ⟨g, o + k * 4, none⟩) 1 (c - k)) [q]) := Lib.hid ⟨_, _, rfl, (fun h => by cases h), (by simp only [List.length_cons, List.length_nil]; omega), fun _ => ⟨g, o + k * 4, rfl, fun i x hx => by
          cases i with
          | zero => simp at hx; subst hx; rw [Nat.zero_mul, Nat.add_zero]; exact hrows k q hq
          | succ i => simp at hx⟩⟩
        clear hrows hN hF hV hsz
        go_upto_region 7 with fail
        refine (from_any _ B wr (Lib.hid hS.out.1) (by omega)).mono ?_
        rintro e w6 ⟨q8, d8, rfl, hO8, k6⟩
        have hS6 := Lib.hid (hS.out.keep k6)
        have hW8 := Lib.hid (hO8.at lineVals_len)
        have hrow6 := Lib.hid (hS6.out.2.2.2.rangeAt hrow0.out id)
        clear hS hO8 k6
        go_upto_region 7 with fail
        go_cut [42] (fun tv wx => (∃ z : Bool, tv = .bool z ∧ (z = true → k < ds.length)) ∧ wx = w6)
        case first =>
          by_cases hkd : k < ds.length
          · obtain ⟨g2, o2, rfl, hrd2⟩ := hrd.out (by omega)
            have hc := hS6.out.2.2.2.rangeAt hrd2 id k (iv64 ds[k]) (by simp [hkd])
            unfold iv64 at hc
            obtain ⟨x, hx⟩ : ∃ x, ds[k] = x := ⟨_, rfl⟩
            rw [hx] at hc
            have m3 : (k : Int) < (ds.length : Int) := by omega
            clear hrd2 hx
            go_wp2_with fail
            go_meet
            case rel => exact ⟨⟨_, rfl, fun _ => hkd⟩, rfl⟩
          · have m3 : ¬ ((k : Int) < (ds.length : Int)) := by omega
            go_wp2_with fail
            go_meet
            case rel => exact ⟨⟨_, rfl, fun e => by simp at e⟩, rfl⟩
        case rest =>
          obtain ⟨⟨z, rfl, hz⟩, rfl⟩ := hcut
          go_upto_if 42 with fail
          go_cut [5, 6] (fun cv wv wx => (∃ (B2 : List LineD) (q : Option Addr) (d : Nat) (q2 : Option Addr) (d2 : Nat), cv = .slice q B2.length d ∧ wv = .slice q2 B2.length d2 ∧ Hid (SideC w wx (.slice q B2.length d) (.slice q2 B2.length d2) B2)))
          case first =>

            cases z with
            | true =>
              have hkd := hz rfl
              obtain ⟨g2, o2, rfl, hrd2⟩ := hrd.out (by omega)
              have hc := hS6.out.2.2.2.rangeAt hrd2 id k (iv64 ds[k]) (by simp [hkd])
              unfold iv64 at hc
              obtain ⟨x, hx⟩ : ∃ x, ds[k] = x := ⟨_, rfl⟩
              rw [hx] at hc
              have m3 : (k : Int) < (ds.length : Int) := by omega
              clear hrd2 hx
              have rr := hrow6.out 2 _ rfl
              go_upto_region 9 with fail
              clear rr
              go_upto_if 53 with fail
              go_cut [9] (fun lv wx => (∃ L : ByteArray, lv = .string L) ∧ wx = wc)
              case first =>
                by_cases h2 : x.tmod 2 = 0
                · go_wp2_with fail
                  go_meet
                  case rel => exact ⟨⟨_, rfl⟩, rfl⟩
                · go_wp2_with fail
                  go_meet
                  case rel => exact ⟨⟨_, rfl⟩, rfl⟩
              case rest =>
                obtain ⟨⟨L, rfl⟩, rfl⟩ := hcut
                have hT := hS6
                clear hc
                go_upto_region 11 with fail
                refine wp_region_noPanic ?_
                refine wp_region_held_drew (S := (fun W => Keeps (fun _ => False) wc W)) (by kernel_rfl) (((Keeps.refl _ _).drew)) (fun hHeld => ?_)
                refine tk 0 rfl ?_
                refine tk 1 rfl ?_
                refine tk 2 rfl ?_
                refine tk 3 rfl ?_
                refine tk 4 rfl ?_
                refine tkL 5 rfl (yieldsIf_load_cell (by rfl) 3 (.tmp 59) rfl g (o + k * 4 + 0) rfl _ (fun _ s => s.rangeAt hrow6.out id 0 _ rfl) (fun w s => load_int w _ _ _ s)) ?_
                refine tk 6 rfl ?_
                refine tk 7 rfl ?_
                refine tk 8 rfl ?_
                refine tk 9 rfl ?_
                refine tkL 10 rfl (yieldsIf_load_cell (by rfl) 9 (.tmp 64) rfl g (o + k * 4 + 1) rfl _ (fun _ s => s.rangeAt hrow6.out id 1 _ rfl) (fun w s => load_str w _ _ _ s)) ?_
                refine tk 11 rfl ?_
                refine stepL 12 rfl (by kernel_rfl) (fun K hK => ?_)
                go_simp
                (refine (del_any _ B q.head N L _ (Lib.hid (hT.out.1.keep hHeld)) (Lib.hid hT.out.2.2.1)).mono ?_; rintro e wbA ⟨pA, dA, rfl, hzA, kbA⟩; have hRA := Lib.hid hzA; have kbA' := Lib.hid kbA; clear kbA hzA)
                go_wp2_with fail
                refine hK.out _ _ ((hHeld.trans kbA'.out)) (fun hHeld => ?_)
                clear hK K
                try simp only [Act.put, sA, sZ, sS]
                refine tk 13 rfl ?_
                refine tk 14 rfl ?_
                refine tk 15 rfl ?_
                refine tk 16 rfl ?_
                refine tk 17 rfl ?_
                refine wpAnyH_done (by kernel_rfl) (NoPanic.normal ?_) _
                have hTA := Lib.hid (hT.out.keep hHeld)
                have hrowA := Lib.hid (hHeld.rangeAt hrow6.out id)
                clear hHeld hT hrow6 hS6
                go_upto_region 12 with fail
                refine wp_region_noPanic ?_
                refine wp_region_held_drew (S := (fun W => Keeps (fun _ => False) wbA W)) (by kernel_rfl) (((Keeps.refl _ _).drew)) (fun hHeld => ?_)
                refine tk 0 rfl ?_
                refine tk 1 rfl ?_
                refine tk 2 rfl ?_
                refine tk 3 rfl ?_
                refine tk 4 rfl ?_
                refine tkL 5 rfl (yieldsIf_load_cell (by rfl) 3 (.tmp 75) rfl g (o + k * 4 + 0) rfl _ (fun _ s => s.rangeAt hrowA.out id 0 _ rfl) (fun w s => load_int w _ _ _ s)) ?_
                refine tk 6 rfl ?_
                refine tk 7 rfl ?_
                refine tk 8 rfl ?_
                refine tk 9 rfl ?_
                refine tkL 10 rfl (yieldsIf_load_cell (by rfl) 9 (.tmp 80) rfl g (o + k * 4 + 1) rfl _ (fun _ s => s.rangeAt hrowA.out id 1 _ rfl) (fun w s => load_str w _ _ _ s)) ?_
                refine tk 11 rfl ?_
                refine stepL 12 rfl (by kernel_rfl) (fun K hK => ?_)
                go_simp
                (refine (rDel_any _ B q.head N L _ (Lib.hid (hTA.out.2.1.keep hHeld)) (Lib.hid hTA.out.2.2.1)).mono ?_; rintro e wbB ⟨pB, dB, rfl, hzB, kbB⟩; have hRB := Lib.hid hzB; have kbB' := Lib.hid kbB; clear kbB hzB)
                go_wp2_with fail
                refine hK.out _ _ ((hHeld.trans kbB'.out)) (fun hHeld => ?_)
                clear hK K
                try simp only [Act.put, sA, sZ, sS]
                refine tk 13 rfl ?_
                refine tk 14 rfl ?_
                refine tk 15 rfl ?_
                refine tk 16 rfl ?_
                refine tk 17 rfl ?_
                refine wpAnyH_done (by kernel_rfl) (NoPanic.normal ?_) _
                have hRr := Lib.hid (delR_right (h := q.head) (n := N.data.toList) (l := L.data.toList) hTA.out.2.2.1)
                have hTB := Lib.hid (hTA.out.keep hHeld)
                have hRA2 := Lib.hid (hRA.out.keep hHeld)
                clear hHeld hTA hrowA hRA
                generalize delR q.head N.data.toList L.data.toList B = R at hRA2 hRB hRr ⊢
                obtain ⟨zs, n⟩ := R
                have hzl := right_len hRr.out
                have hzl' : zs.length ≤ 64 := hzl
                have nn : ((n : Int) != (n : Int)) = false := by simp
                go_upto_region 13 with fail
                go_wp2_with fail
                refine (from_any _ zs _ hRA2 (by omega)).mono ?_
                rintro e w8 ⟨q9, d9, rfl, hO9, k9⟩
                have hW9 := Lib.hid (hO9.at lineVals_len)
                have hT8 := Lib.hid (hTB.out.keep k9)
                have hRA8 := Lib.hid (hRA2.out.keep k9)
                have hRB8 := Lib.hid (hRB.out.keep k9)
                clear hO9 k9 hTB hRA2 hRB
                go_wp2_with fail
                refine (rSame_c _ _ zs zs true _ hW9 hRB8 (by omega) (by omega) (Lib.hid (by simp))).mono ?_
                rintro e w10 ⟨rfl, k10⟩
                have hT10 := Lib.hid (hT8.out.keep k10)
                have hRA10 := Lib.hid (hRA8.out.keep k10)
                have hRB10 := Lib.hid (hRB8.out.keep k10)
                clear k10 hT8 hRA8 hRB8 hW9
                by_cases n0 : n = 0
                · have e0 : ((n : Int) == 0) = true := by simp [n0]
                  clear n0
                  go_wp2_with fail
                  go_meet
                  case rel => exact ⟨zs, _, _, _, _, rfl, rfl, Lib.hid ⟨hRA10.out, hRB10.out, hRr.out, hT10.out.2.2.2⟩⟩
                · have e0 : ((n : Int) == 0) = false := by simp; omega
                  clear n0
                  go_wp2_with fail
                  go_meet
                  case rel => exact ⟨B, _, _, _, _, rfl, rfl, hT10⟩
            | false =>
              go_upto_region 17 with fail
              go_wp2_with fail
              have hone := Lib.hid (hone0.out.keep hS6.out.2.2.2)
              refine (to_any _ [q] _ hone (by simp)).mono ?_
              rintro e w4 ⟨q4, d4, rfl, hO4, k4⟩
              obtain ⟨g4, o4, rfl, hrw4⟩ := (hO4.at lineVals_len).open (by simp)
              have hrow4 : Hid (w4.rangeAt g4 o4 [.int .i64 q.head, .string N, .string F, .string V]) := Lib.hid (by have := hrw4 0 q rfl; rw [Nat.zero_mul, Nat.add_zero, hqd.out] at this; exact this)
              have hT4 := Lib.hid (hS6.out.keep k4)
              have hW4 := Lib.hid (hW8.out.keep k4)
              have hr4 := Lib.hid (k4.rangeAt hrow6.out id)
              clear hO4 k4 hrw4 hone hS6 hW8 hrow6
              go_wp2_with ((with_reducible refine at_slot 109 ?_); refine wpList_load_mid rfl 36 (.tmp 108) rfl g4 o4 rfl [.int .i64 q.head, .string N, .string F, .string V] _ hrow4.out Try.underlying36 rfl lineInfo ?_)
              refine (set_any _ B q.head N F V _ (Lib.hid hT4.out.1) (Lib.hid hT4.out.2.2.1) sN sV).mono ?_
              rintro e wA ⟨pA, dA, rfl, hzA, kA⟩
              have hRA := Lib.hid hzA
              have hTA := Lib.hid (hT4.out.keep kA)
              have hWA := Lib.hid (hW4.out.keep kA)
              have hrA := Lib.hid (kA.rangeAt hr4.out id)
              clear hzA kA hrow4 hT4 hW4 hr4
              go_wp2_with ((with_reducible refine at_slot 118 ?_); refine wpList_load_mid rfl 28 (.tmp 117) rfl g (o + k * 4) rfl [.int .i64 q.head, .string N, .string F, .string V] _ hrA.out Try.underlying28 rfl line5InfoG ?_)
              refine (rSet_any _ B q.head N F V _ (Lib.hid hTA.out.2.1) (Lib.hid hTA.out.2.2.1) sN sV).mono ?_
              rintro e wB ⟨pB, dB, rfl, hzB, kB⟩
              have hRr := Lib.hid (setR_right (x := ⟨q.head, N.data.toList, F.data.toList, V.data.toList⟩) hTA.out.2.2.1)
              have hTB := Lib.hid (hTA.out.keep kB)
              have hWB := Lib.hid (hWA.out.keep kB)
              have hRA2 := Lib.hid (hRA.out.keep kB)
              have hRB := Lib.hid hzB
              clear hzB kB hTA hWA hRA hrA
              generalize setR ⟨q.head, N.data.toList, F.data.toList, V.data.toList⟩ B = R at hRA2 hRB hRr ⊢
              obtain ⟨zs, n⟩ := R
              have hzl := right_len hRr.out
              have hzl' : zs.length ≤ 64 := hzl
              have nn : ((n : Int) != (n : Int)) = false := by simp
              go_upto_region 19 with fail
              go_wp2_with fail
              refine (from_any _ zs _ hRA2 (by omega)).mono ?_
              rintro e w8 ⟨q9, d9, rfl, hO9, k9⟩
              have hW9 := Lib.hid (hO9.at lineVals_len)
              have hT8 := Lib.hid (hTB.out.keep k9)
              have hWas8 := Lib.hid (hWB.out.keep k9)
              have hRA8 := Lib.hid (hRA2.out.keep k9)
              have hRB8 := Lib.hid (hRB.out.keep k9)
              clear hO9 k9 hTB hRA2 hRB hWB
              go_wp2_with fail
              refine (rSame_c _ _ zs zs true _ hW9 hRB8 (by omega) (by omega) (Lib.hid (by simp))).mono ?_
              rintro e w10 ⟨rfl, k10⟩
              have hT10 := Lib.hid (hT8.out.keep k10)
              have hWas10 := Lib.hid (hWas8.out.keep k10)
              have hRA10 := Lib.hid (hRA8.out.keep k10)
              have hRB10 := Lib.hid (hRB8.out.keep k10)
              clear k10 hT8 hRA8 hRB8 hW9 hWas8
              go_wp2_with fail
              refine (from_any _ B _ (Lib.hid hT10.out.1) (by omega)).mono ?_
              rintro e w11 ⟨q11, d11, rfl, hO11, k11⟩
              have hW11 := Lib.hid (hO11.at lineVals_len)
              have hT11 := Lib.hid (hT10.out.keep k11)
              have hWas11 := Lib.hid (hWas10.out.keep k11)
              have hRA11 := Lib.hid (hRA10.out.keep k11)
              have hRB11 := Lib.hid (hRB10.out.keep k11)
              clear hO11 k11 hT10 hRA10 hRB10 hWas10
              go_wp2_with fail
              refine (rSame_c _ _ B B true _ hW11 hWas11 (by omega) (by omega) (Lib.hid (by simp))).mono ?_
              rintro e w12 ⟨rfl, k12⟩
              have hT12 := Lib.hid (hT11.out.keep k12)
              have hRA12 := Lib.hid (hRA11.out.keep k12)
              have hRB12 := Lib.hid (hRB11.out.keep k12)
              clear k12 hT11 hRA11 hRB11 hW11 hWas11
              by_cases n0 : n = 0
              · have e0 : ((n : Int) == 0) = true := by simp [n0]
                clear n0
                go_wp2_with fail
                go_meet
                case rel => exact ⟨zs, _, _, _, _, rfl, rfl, Lib.hid ⟨hRA12.out, hRB12.out, hRr.out, hT12.out.2.2.2⟩⟩
              · have e0 : ((n : Int) == 0) = false := by simp; omega
                clear n0
                go_wp2_with fail
                go_meet
                case rel => exact ⟨B, _, _, _, _, rfl, rfl, hT12⟩
          case rest =>
            obtain ⟨B2, qz, dz, qy, dy, rfl, rfl, hT⟩ := hcut
            clear hS6 hW8 hrow6 hlen
            have hrw7 := Lib.hid (hT.out.2.2.2.rangeAt hrow0.out id)
            have hBr := Lib.hid hT.out.2.2.1
            have hlen2 := right_len hBr.out
            obtain ⟨Z, hZ⟩ : ∃ Z : ByteArray, Z = ⟨(valueR B2 q.head N.data.toList F.data.toList).toArray⟩ := ⟨_, rfl⟩
            have hZ' := Lib.hid hZ; clear hZ
            have hBlt := Lib.hid (right_lt hBr.out 8796093022000 (by omega))
            go_upto_region 23 with fail
            refine wp_region_noPanic ?_
            refine wp_region_held_drew (S := (fun W => Keeps (fun _ => False) wc W)) (by kernel_rfl) (((Keeps.refl _ _).drew)) (fun hHeld => ?_)
            refine tk 0 rfl ?_
            refine tk 1 rfl ?_
            refine tk 2 rfl ?_
            refine tk 3 rfl ?_
            refine tk 4 rfl ?_
            refine tkL 5 rfl (yieldsIf_load_cell (by rfl) 3 (.tmp 147) rfl g (o + k * 4 + 0) rfl _ (fun _ s => s.rangeAt hrw7.out id 0 _ rfl) (fun w s => load_int w _ _ _ s)) ?_
            refine tk 6 rfl ?_
            refine tk 7 rfl ?_
            refine tk 8 rfl ?_
            refine tk 9 rfl ?_
            refine tkL 10 rfl (yieldsIf_load_cell (by rfl) 9 (.tmp 152) rfl g (o + k * 4 + 1) rfl _ (fun _ s => s.rangeAt hrw7.out id 1 _ rfl) (fun w s => load_str w _ _ _ s)) ?_
            refine tk 11 rfl ?_
            refine tk 12 rfl ?_
            refine tk 13 rfl ?_
            refine tk 14 rfl ?_
            refine tkL 15 rfl (yieldsIf_load_cell (by rfl) 9 (.tmp 157) rfl g (o + k * 4 + 2) rfl _ (fun _ s => s.rangeAt hrw7.out id 2 _ rfl) (fun w s => load_str w _ _ _ s)) ?_
            refine tk 17 rfl ?_
            refine tk 18 rfl ?_
            refine tk 19 rfl ?_
            refine tk 20 rfl ?_
            refine tk 21 rfl ?_
            refine tkL 22 rfl (yieldsIf_load_cell (by rfl) 3 (.tmp 164) rfl g (o + k * 4 + 0) rfl _ (fun _ s => s.rangeAt hrw7.out id 0 _ rfl) (fun w s => load_int w _ _ _ s)) ?_
            refine tk 23 rfl ?_
            refine tk 24 rfl ?_
            refine tk 25 rfl ?_
            refine tk 26 rfl ?_
            refine tkL 27 rfl (yieldsIf_load_cell (by rfl) 9 (.tmp 169) rfl g (o + k * 4 + 1) rfl _ (fun _ s => s.rangeAt hrw7.out id 1 _ rfl) (fun w s => load_str w _ _ _ s)) ?_
            refine tk 28 rfl ?_
            refine tk 29 rfl ?_
            refine tk 30 rfl ?_
            refine tk 31 rfl ?_
            refine tkL 32 rfl (yieldsIf_load_cell (by rfl) 9 (.tmp 174) rfl g (o + k * 4 + 2) rfl _ (fun _ s => s.rangeAt hrw7.out id 2 _ rfl) (fun w s => load_str w _ _ _ s)) ?_
            refine stepL 16 rfl (by kernel_rfl) (fun K hK => ?_)
            go_simp
            (refine (value_any _ B2 q.head N F Z _ (Lib.hid (hT.out.1.keep hHeld)) hBr hZ').mono ?_; rintro e wd ⟨rfl, kd⟩; have kd' := Lib.hid kd; clear kd)
            go_wp2_with fail
            refine hK.out _ _ ((hHeld.trans kd'.out)) (fun hHeld => ?_)
            clear hK K
            try simp only [Act.put, sA, sZ, sS]
            refine stepL 33 rfl (by kernel_rfl) (fun K hK => ?_)
            go_simp
            (refine (rValue_c _ B2 q.head N F Z _ (Lib.hid (hT.out.2.1.keep hHeld)) hBlt hlen2 hBr hZ').mono ?_; rintro e we ⟨rfl, ke⟩; have ke' := Lib.hid ke; clear ke)
            go_wp2_with fail
            refine hK.out _ _ ((hHeld.trans ke'.out)) (fun hHeld => ?_)
            clear hK K
            try simp only [Act.put, sA, sZ, sS]
            refine tk 34 rfl ?_
            refine wpAnyH_done (by kernel_rfl) (NoPanic.normal ?_) _
            have hT2 := Lib.hid (hT.out.keep hHeld)
            clear hHeld hT hrw7
            go_wp2_with fail
            exact ⟨⟨k + 1, B2, _, _, _, _, by omega, by omega, by go_num, rfl, rfl, hT2⟩, by simp [intOf]; omega⟩
      · have h80i : ¬ ((k : Int) < 80) := by omega
        have hBr := Lib.hid hS.out.2.2.1
        clear hrw hrd hlt hl hl2 hcap hcap2
        go_wp2_with fail
        go_loopw [18] (fun iv wx => ∃ j : Nat, j ≤ 5 ∧ iv = .int .i64 ((j : Int) - 1) ∧ Hid (SideC w wx (.slice qc B.length dc) (.slice qw B.length dw) B)) (fun iv _ => (4 - intOf iv).toNat)
        case atStart => exact ⟨0, by omega, rfl, hS⟩
        case round =>
          obtain ⟨j, hj, rfl, hT⟩ := hrel
          clear hS
          by_cases hj5 : j < 5
          · have j1 : (j : Int) - 1 < 4 := by omega
            have j2 : IntKind.i64.wrap ((j : Int) - 1 + 1) = ((j + 1 : Nat) : Int) - 1 := by rw [IntWalk.i64_in _ (by omega)]; omega
            obtain ⟨hh, hhe⟩ : ∃ hh : Int, (j : Int) - 1 = hh := ⟨_, rfl⟩
            rw [hhe] at j1 j2 ⊢
            have hnl := namesA_len hh B
            obtain ⟨xs, hxs⟩ : ∃ xs, namesA hh B = xs := ⟨_, rfl⟩
            have hxs' := Lib.hid hxs
            have hxx : (xs == xs) = true := by simp
            rw [hxs] at hnl
            clear hxs
            go_wp2_with fail
            refine (names_all _ B hh _ (Lib.hid hT.out.1) hBr).mono ?_
            rintro e wa ⟨pa, da, rfl, hza, ka⟩
            rw [hxs'.out] at hza ⊢
            have hA := Lib.hid hza
            have hTa := Lib.hid (hT.out.keep ka)
            clear hza ka hT
            go_wp2_with fail
            refine (rNames_all _ B hh _ (Lib.hid hTa.out.2.1) hBr).mono ?_
            rintro e wb ⟨pb, db, rfl, hzb, kb⟩
            rw [hxs'.out] at hzb ⊢
            have hA2 := Lib.hid (hA.out.keep kb (fun _ _ _ f => f))
            have hB2 := Lib.hid hzb
            have hTb := Lib.hid (hTa.out.keep kb)
            clear hzb kb hTa hA
            go_wp2_with fail
            refine (rSame3_any _ _ xs xs _ hA2.out hB2.out (by omega) (by omega)).mono ?_
            rintro e wd ⟨rfl, nd, rfl⟩
            have hTd := Lib.hid (hTb.out.keep ((Keeps.refl (fun _ => False) _).drewN nd))
            clear hTb hA2 hB2
            rw [hxx]
            go_wp2_with fail
            exact ⟨⟨j + 1, by omega, (by congr 1; omega), hTd⟩, by simp [intOf]; omega⟩
          · obtain rfl : j = 5 := by omega
            clear hj hj5
            obtain ⟨T, hT0⟩ : ∃ T : ByteArray, T = ⟨(textK B B.length).toArray⟩ := ⟨_, rfl⟩
            have hT' := Lib.hid hT0; clear hT0
            have hBlt := Lib.hid (right_lt hBr.out 9223372036854775807 (by omega))
            have hbe : (T.toList == T.toList) = true := by simp
            go_wp2_with fail
            refine (writes_any _).mono ?_
            rintro e wa ⟨rfl, ka⟩
            have hTa := Lib.hid (hT.out.keep ka)
            clear ka hT
            go_wp2_with fail
            refine (text_c _ B T _ (Lib.hid hTa.out.1) hBr hT').mono ?_
            rintro e wb ⟨rfl, kb⟩
            have hTb := Lib.hid (hTa.out.keep kb)
            clear kb hTa
            go_wp2_with fail
            refine (rText_c _ B T _ (Lib.hid hTb.out.2.1) hBr hT').mono ?_
            rintro e wd ⟨rfl, kd⟩
            have hTd := Lib.hid (hTb.out.keep kd)
            clear kd hTb
            go_wp2_with fail
            refine (right_c _ B true _ (Lib.hid hTd.out.1.lines) (by omega) hBlt hBr).mono ?_
            rintro e we ⟨rfl, ke⟩
            have hTe := Lib.hid (hTd.out.keep ke)
            clear ke hTd
            go_wp2_with fail
            go_ret
            exact ⟨rfl, hTe.out.2.2.2⟩
    · have hlki : ¬ ((k : Int) < (ls.length : Int)) := by omega
      have hBr := Lib.hid hS.out.2.2.1
      clear hrw hrd hlt hl hl2 hcap hcap2
      go_wp2_with fail
      go_loopw [18] (fun iv wx => ∃ j : Nat, j ≤ 5 ∧ iv = .int .i64 ((j : Int) - 1) ∧ Hid (SideC w wx (.slice qc B.length dc) (.slice qw B.length dw) B)) (fun iv _ => (4 - intOf iv).toNat)
      case atStart => exact ⟨0, by omega, rfl, hS⟩
      case round =>
        obtain ⟨j, hj, rfl, hT⟩ := hrel
        clear hS
        by_cases hj5 : j < 5
        · have j1 : (j : Int) - 1 < 4 := by omega
          have j2 : IntKind.i64.wrap ((j : Int) - 1 + 1) = ((j + 1 : Nat) : Int) - 1 := by rw [IntWalk.i64_in _ (by omega)]; omega
          obtain ⟨hh, hhe⟩ : ∃ hh : Int, (j : Int) - 1 = hh := ⟨_, rfl⟩
          rw [hhe] at j1 j2 ⊢
          have hnl := namesA_len hh B
          obtain ⟨xs, hxs⟩ : ∃ xs, namesA hh B = xs := ⟨_, rfl⟩
          have hxs' := Lib.hid hxs
          have hxx : (xs == xs) = true := by simp
          rw [hxs] at hnl
          clear hxs
          go_wp2_with fail
          refine (names_all _ B hh _ (Lib.hid hT.out.1) hBr).mono ?_
          rintro e wa ⟨pa, da, rfl, hza, ka⟩
          rw [hxs'.out] at hza ⊢
          have hA := Lib.hid hza
          have hTa := Lib.hid (hT.out.keep ka)
          clear hza ka hT
          go_wp2_with fail
          refine (rNames_all _ B hh _ (Lib.hid hTa.out.2.1) hBr).mono ?_
          rintro e wb ⟨pb, db, rfl, hzb, kb⟩
          rw [hxs'.out] at hzb ⊢
          have hA2 := Lib.hid (hA.out.keep kb (fun _ _ _ f => f))
          have hB2 := Lib.hid hzb
          have hTb := Lib.hid (hTa.out.keep kb)
          clear hzb kb hTa hA
          go_wp2_with fail
          refine (rSame3_any _ _ xs xs _ hA2.out hB2.out (by omega) (by omega)).mono ?_
          rintro e wd ⟨rfl, nd, rfl⟩
          have hTd := Lib.hid (hTb.out.keep ((Keeps.refl (fun _ => False) _).drewN nd))
          clear hTb hA2 hB2
          rw [hxx]
          go_wp2_with fail
          exact ⟨⟨j + 1, by omega, (by congr 1; omega), hTd⟩, by simp [intOf]; omega⟩
        · obtain rfl : j = 5 := by omega
          clear hj hj5
          obtain ⟨T, hT0⟩ : ∃ T : ByteArray, T = ⟨(textK B B.length).toArray⟩ := ⟨_, rfl⟩
          have hT' := Lib.hid hT0; clear hT0
          have hBlt := Lib.hid (right_lt hBr.out 9223372036854775807 (by omega))
          have hbe : (T.toList == T.toList) = true := by simp
          go_wp2_with fail
          refine (writes_any _).mono ?_
          rintro e wa ⟨rfl, ka⟩
          have hTa := Lib.hid (hT.out.keep ka)
          clear ka hT
          go_wp2_with fail
          refine (text_c _ B T _ (Lib.hid hTa.out.1) hBr hT').mono ?_
          rintro e wb ⟨rfl, kb⟩
          have hTb := Lib.hid (hTa.out.keep kb)
          clear kb hTa
          go_wp2_with fail
          refine (rText_c _ B T _ (Lib.hid hTb.out.2.1) hBr hT').mono ?_
          rintro e wd ⟨rfl, kd⟩
          have hTd := Lib.hid (hTb.out.keep kd)
          clear kd hTb
          go_wp2_with fail
          refine (right_c _ B true _ (Lib.hid hTd.out.1.lines) (by omega) hBlt hBr).mono ?_
          rintro e we ⟨rfl, ke⟩
          have hTe := Lib.hid (hTd.out.keep ke)
          clear ke hTd
          go_wp2_with fail
          go_ret
          exact ⟨rfl, hTe.out.2.2.2⟩
end Go.Proofs.Ytdjmhjgfjbcdkaa
/- ConfSets, proved in its second form: in every row of lines that are set or deleted the configuration is told, or why it isn't; values, names and the text, too; for every input whose bulk is at most 1048576. -/
set_option linter.unusedVariables false
namespace Go.Proofs.Ytdjmhjgfjbcdkaa
open Go.ChangeShapes Go.WideShapes Go.ChangeAt Go.RowKit Go.WideMaps Go.Deep
open Go.ChangeMaps (open_string)
set_option maxRecDepth 100000 in
/-- a slice of ints that came in -/
theorem ints_came {H : Type} {enc : TypeId × Value → H} {W : World} {base : Nat} {v : Value} {d : DataW H} {ps : List MemPlace} (hval : Value.okWide Try.prog W .any base 23 v) (h : DataW.Trod enc Try.prog W 0 (fun _ => true) true 23 v d ps) :
    ∃ l, IntsAt W v l ∧ l.length ≤ 9223372036854775807 := by
  obtain ⟨a, len, cap, rfl⟩ := okWide_slice Try.underlying23 hval
  obtain ⟨fuel, hf⟩ := h
  rcases open_ints Try.underlying23 Try.underlying3 (by kernel_rfl) hf with ⟨hcs, _⟩ | ⟨x, l, c, zs, hcs, _, hl, hm, hz, _, hcell, _⟩
  · simp [Value.cells] at hcs
    obtain ⟨rfl, rfl, rfl⟩ := hcs
    exact ⟨[], ⟨none, 0, rfl, fun _ => rfl, Nat.le_refl _, fun h => by simp at h⟩, by simp⟩
  · simp [Value.cells] at hcs
    obtain ⟨rfl, rfl, rfl⟩ := hcs
    simp only [if_true] at hz
    have hn : (zs.take len).length = len := by simp; omega
    refine ⟨zs.take len, ⟨some x, cap, by rw [hn], (fun h => nomatch h), by rw [hn]; exact hl, fun h0 => ?_⟩, by rw [hn]; unfold maxLen at hm; omega⟩
    rw [hn] at h0
    obtain ⟨b, o, s⟩ := x
    have hs : s = none := by simpa [Addr.add] using World.cell?_spot (hcell 0 (by omega))
    subst hs
    refine ⟨b, o, rfl, fun j u hu => ?_⟩
    have hj : j < len := by have := (List.getElem?_eq_some_iff.1 hu).1; simp at this; omega
    have hc := hcell j (by omega)
    rw [Addr.add_mid] at hc
    rw [hc]
    have hjz : j < zs.length := by omega
    simp only [List.getElem?_map, List.getElem?_take, hj, if_true, List.getElem?_eq_getElem hjz, Option.map_some, Option.some.injEq] at hu
    rw [← hu]
    have e : zs.getD j 0 = zs[j] := by simp [List.getD, List.getElem?_eq_getElem hjz]
    rw [e]; rfl
namespace confSetsProof
theorem own : ownKnob Try.prog.godebug = none := by kernel_rfl
theorem laidOut : laidOutB Try.prog = true := by kernel_rfl
theorem bound {H : Type} {l : List (DataW H)} (hk : Rows.uptoSmall H l = true) : Rows.uptoBulkAll l ≤ 1048576 := by
  simpa [Rows.uptoSmall] using hk
set_option maxRecDepth 100000 in
theorem contract (H : Type) (enc : TypeId × Value → H) (W : World) (base : Nat) (args : Array Value) (ds gs : List (DataW H)) (before : List MemPlace)
    (hval : ∀ (j : Nat) t v, Try.f3.params[j]? = some t → args[j]? = some v → Value.okWide Try.prog W .any base t v)
    (hW : DataW.Whole enc Try.prog Try.f3.params.toList Rows.confSetsSpec.vars false W args.toList ds gs before) (hk : Rows.uptoSmall H (ds ++ gs) = true) :
    Calls Try.prog 3 args W fun e W' => ∃ v, e = .returned v ∧ Rows.confSetsSpec.post enc Try.prog Try.f3 false true false false W args v W' := by
  have hW' := hW
  obtain ⟨p, q, hA0, hV, rfl, hfz, hnd⟩ := hW
  have hA : DataW.TrodAll enc Try.prog W 0 (fun _ => true) true Try.f3.params.toList args.toList ds p := hA0
  rw [Try.params3] at hA hval
  obtain ⟨v0, vs0, d0, ds0, p0, q0, hargs, rfl, rfl, h0, r0⟩ := trodAll_cons hA
  obtain ⟨v1, vs1, d1, ds1, p1, q1, rfl, rfl, rfl, h1, r1⟩ := trodAll_cons r0
  obtain ⟨rfl, rfl, rfl⟩ := trodAll_nil r1
  obtain rfl : args = #[v0, v1] := by cases args; simp_all
  obtain ⟨rfl, rfl⟩ := trodVars_none hV
  have k0 := h0
  have k1 := h1
  have hb := bound hk
  simp only [List.append_nil, Rows.uptoBulkAll] at hb
  have lt0 : ∀ x ∈ p0, x.block < W.heap.size := by obtain ⟨m, hm⟩ := k0; exact DataW.trod_lt m _ _ _ hm
  have lt1 : ∀ x ∈ p1, x.block < W.heap.size := by obtain ⟨m, hm⟩ := k1; exact DataW.trod_lt m _ _ _ hm
  obtain ⟨sa, sl, sc, rfl⟩ := okWide_slice Try.underlying22 (hval 0 22 v0 rfl rfl)
  obtain ⟨m0, hm0⟩ := h0
  obtain ⟨ls, pz, cz, hvz, hrows, hlt, hlen⟩ := lines_came (M := 1048576) (show DataW.trod enc Try.prog W 0 (fun _ => true) true m0 22 [.slice sa sl sc] = some (d0, p0) from hm0) (by simp only; omega)
  rw [hvz] at hW' k0 hA0 ⊢
  obtain ⟨zs, w1, b1⟩ := ints_came (hval 1 23 v1 rfl rfl) h1
  clear hA0
  simp only [List.append_nil] at hW'
  refine (confSets_law _ _ ls zs W (Lib.hid hrows) (Lib.hid w1) (by omega) b1 (Lib.hid (hlt.mono (by omega)))).mono fun e W' ⟨he, hke⟩ => ?_
  have bel := hke.below (Nat.le_refl _) (fun _ f => f.elim)
  subst he
  exact ⟨_, rfl, _, _, _, [], _, [], hW', trodAll_mk1 (shut_bool Try.underlying4 _), (trodAll_cons_mk (Below.trod laidOut (by kernel_rfl) (of_decide_eq_true (by kernel_rfl)) k0 bel lt0) (trodAll_cons_mk (Below.trod laidOut (by kernel_rfl) (of_decide_eq_true (by kernel_rfl)) k1 bel lt1) trodAll_mk0)), rfl, bel.frame _, fun h => by cases h⟩
set_option maxRecDepth 100000 in
theorem lifted (os : Os) (started : os.Started) (H : Type) (enc : TypeId × Value → H) (F : Stop.Interp) :
    ReturnsInHanded {} Try.checked os 3 .any ((Rows.OpenSpec.upto Rows.confSetsSpec).pre6 enc Try.prog Try.f3 Rows.confSetsUptoRow.domain false) (((Rows.OpenSpec.upto Rows.confSetsSpec).at F).post enc Try.prog Try.f3 false true false false) := by
  refine returnsInHanded_of_cond (C := Try.checked) (s := Rows.OpenSpec.upto Rows.confSetsSpec) (k := Rows.uptoSmall) rfl own started (by kernel_rfl) Try.func3
    (OpenSpec.witness (enc := enc) (C := Try.checked) (s := Rows.OpenSpec.upto Rows.confSetsSpec) (k := Rows.uptoSmall) rfl false ⟨#[], #[.slice none 0 0, .slice none 0 0], []⟩ 8 (by kernel_rfl) (by kernel_rfl) (by kernel_rfl)
      (x := ([.nil, .nil], [], [])) (by kernel_rfl) rfl (by kernel_rfl)) ?_
  intro W base args ds gs before hval hW _ hk _
  exact contract H enc W base args ds gs before hval hW hk
theorem over : Rows.confSetsUptoRow.holds Try.pinned (Rows.OpenSpec.upto Rows.confSetsSpec) :=
  OpenClaim.holds_of_cond 3 Try.f3 rfl rfl rfl rfl rfl rfl rfl ⟨rfl, rfl, rfl, rfl, rfl⟩ rfl rfl rfl rfl rfl (by kernel_rfl) Try.func3 (by kernel_rfl)
    (of_decide_eq_true (by kernel_rfl)) (by unfold Func.isWrapper; first | (rw [if_pos (by decide +kernel)]; kernel_rfl) | (rw [if_neg (by decide +kernel)]; exact ⟨rfl, rfl⟩))
    (fun os started H enc _ F => lifted os started H enc F)
end confSetsProof
theorem confSetsUpto_holds : Rows.ConfSetsUptoSaid := confSetsProof.over
end Go.Proofs.Ytdjmhjgfjbcdkaa
