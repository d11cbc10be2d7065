/- WaystoneTexts, walked. -/
import Derived.Test.YtdannodhlaaoiaaGreatDoorWT28
import Derived.Test.YtdannodhlaaoiaaGreatDoorWT43
import Derived.Test.YtdannodhlaaoiaaGreatDoorWT21
import Derived.Test.YtdannodhlaaoiaaGreatDoorWT26
import Derived.Test.YtdannodhlaaoiaaGreatDoorWT45
import Derived.Test.YtdannodhlaaoiaaGreatDoorWT46
import Derived.Test.YtdannodhlaaoiaaGreatDoorWT49
import Derived.Test.YtdannodhlaaoiaaGreatDoorWT23
import Derived.Test.YtdannodhlaaoiaaGreatDoorRows
import Derived.Test.YtdannodhlaaoiaaGreatDoorWT12
import Derived.Test.YtdannodhlaaoiaaGreatDoorWT16
import Derived.ProofKit
import Derived.OpenShut
import Derived.JoinedCond
import Derived.Deep.Grids
import Derived.Deep.Slices
set_option linter.unusedVariables false
set_option linter.unusedSimpArgs false
set_option linter.unusedVariables false
set_option linter.unusedSimpArgs false
namespace Go.Proofs.YtdannodhlaaoiaaGreatDoor
open Go.RowKit
theorem tail_bytes {w : World} {g o d m : Nat} {b : UInt8} {x : List UInt8} (hm : x.length = m) (h : BytesAt w (.slice (some ⟨g, o, none⟩) (m + 1) d) (b :: x)) {pp : Option Addr} (hpp : (if d = 1 then some (⟨g, o, none⟩ : Addr) else some ⟨g, o + 1, none⟩) = pp) : BytesAt w (.slice pp m (d - 1)) x := by
  subst hm
  obtain ⟨p', c', e, -, hc, hr⟩ := h
  injection e with e1 e2 e3
  subst e1; subst e3
  rw [List.length_cons] at hc
  refine ⟨pp, d - 1, rfl, fun e => ?_, by omega, fun h0 => ?_⟩
  · rw [e] at hpp; split at hpp <;> cases hpp
  · rw [if_neg (by omega)] at hpp
    obtain ⟨g2, o2, e4, hr2⟩ := hr (by simp)
    injection e4 with e4
    injection e4 with e5 e6 e7
    subst e5; subst e6
    refine ⟨g, o + 1, hpp.symm, fun j u hu => ?_⟩
    have := hr2 (j + 1) u (by simpa using hu)
    rw [Nat.add_assoc, Nat.add_comm 1 j]
    exact this
section
variable [Inhabited BaseN]
set_option maxRecDepth 100000 in
set_option maxHeartbeats 16000000 in
theorem waystoneTexts_law (v : Value) (ls : List LineD) (w : World) (hb1 : base0 = w.heap.size) (hv : Hid (RowsAt 4 lineVals w v ls)) (hl : ls.length ≤ 1000000000000) (hlt : Hid (LinesLt ls 8796093022000)) (ht : Hid (VerbsOk w)) (htab : Hid (TabOk w)) :
    Calls Tryz.prog 3 #[v] w (NewRes (.bool true) w) := by
  obtain ⟨p, c, rfl⟩ := hv.out.slice
  have hr0 := build_right ls
  have hb := Lib.hid (build_any _ ls w hv hl hlt)
  generalize buildC ls = L at hr0 hb
  have hr := Lib.hid hr0
  have hlen := right_len hr0
  have hb1' := Lib.hid hb1
  obtain ⟨T, hT0⟩ : ∃ T : ByteArray, T = ⟨(textK L L.length).toArray⟩ := ⟨_, rfl⟩
  have hT := Lib.hid hT0
  have hTs : T.size ≤ 30000 := by
    have h1 := textK_len (fun q hq => line_small (right_line hr.out q hq)) L.length
    rw [hT0]; show (textK L L.length).length ≤ _; omega
  have hans : Hid (ansT T.data.toList = (L, 0)) := Lib.hid (by rw [hT0]; exact again_ok hr.out)
  clear hT0 hr0 hb1 hlt
  go_enter Tryz.func3, Tryz.ntmps3
  go_wp2_with fail
  refine hb.out.mono ?_
  rintro e w1 ⟨p1, c1, rfl, hX, k1⟩
  have hC1 := Lib.hid (hX.at lineVals_len)
  have hk1 := Lib.hid k1
  clear hX k1 hb hv
  go_wp2_with fail
  refine (to_any _ L _ hC1 (by omega)).mono ?_
  rintro e w2 ⟨p2, c2, rfl, hX, k2⟩
  have hO2 := Lib.hid hX
  have hk2 := Lib.hid (hk1.out.trans k2)
  clear hX k2 hC1 hk1
  go_wp2_with fail
  refine (text_c _ L T _ (Lib.hid (hO2.out.at lineVals_len)) hr hT).mono ?_
  rintro e w3 ⟨rfl, k3⟩
  have hO3 := Lib.hid (hO2.out.keep k3 (fun _ _ f => f))
  have hk3 := Lib.hid (hk2.out.trans k3)
  clear k3 hO2 hk2
  go_wp2_with fail
  refine (pText_any T _ (by omega)).mono ?_
  rintro e w4 hp
  rw [hans.out] at hp
  obtain ⟨p4, c4, rfl, hD, k4⟩ := hp
  simp only [show ((0 : Nat) : Int) = 0 from rfl] at hD ⊢
  have hD4 := Lib.hid hD
  have hO4 := Lib.hid (hO3.out.keep k4 (fun _ _ f => f))
  have hk4 := Lib.hid (hk3.out.trans k4)
  clear k4 hD hO3 hk3 hans
  go_wp2_with fail
  refine (put_c _ L _ hD4 hr).mono ?_
  rintro e w5 ⟨p5, c5, rfl, hB, k5⟩
  simp only [show ((0 : Nat) : Int) = 0 from rfl] at hB ⊢
  have hB5 := Lib.hid hB
  have hO5 := Lib.hid (hO4.out.keep k5 (fun _ _ f => f))
  have hk5 := Lib.hid (hk4.out.trans k5)
  clear k5 hB hO4 hk4 hD4
  go_wp2_with fail
  refine (new_js 200 w5 (by omega) (by omega) (by rw [hb1'.out]; exact hk5.out.size)).mono ?_
  rintro e w6 ⟨db, bs, rfl, hD, k6⟩
  have hD6 := Lib.hid hD
  have hO6 := Lib.hid (hO5.out.keep k6 (fun _ _ f => f))
  have hB6 := Lib.hid (hB5.out.keep k6 (fun _ _ f => f))
  have hk6 := Lib.hid (hk5.out.trans k6)
  clear k6 hD hO5 hB5 hk5
  go_wp2_with fail
  refine (begin_js w6 db bs 200 (by omega) (by rw [hb1'.out]; exact hk6.out.size) hD6).mono ?_
  rintro e w7 ⟨k7, jb, ev, D, rfl, hjb, hDb, hDl, hJ⟩
  have hO7 := Lib.hid (own_line_D hO6.out k7)
  have hB7 := Lib.hid (hB6.out.keep k7 (own_bytes_notD hB6.out))
  have hk7 : Hid (Keeps (fun _ => False) w w7) := Lib.hid (keepNo2 hk6.out k7 (by rw [hb1'.out]; exact Nat.le_refl _))
  have hJ7 := Lib.hid hJ
  have hDb7 := Lib.hid (And.intro hDb hDl)
  clear k7 hjb hDb hDl hJ hO6 hB6 hk6 hD6
  go_wp2_with fail
  refine (topStands_any _).mono ?_
  rintro e w8 ⟨rfl, k8⟩
  have hO8 := Lib.hid (hO7.out.keep k8 (fun _ _ f => f))
  have hB8 := Lib.hid (hB7.out.keep k8 (fun _ _ f => f))
  have hk8 := Lib.hid (hk7.out.trans k8)
  have hJ8 := Lib.hid (hJ7.out.keep k8)
  clear k8 hO7 hB7 hk7 hJ7
  obtain ⟨i0, hi0, hz0, hz1, hz2⟩ := info_parts u8InfoAll
  have hOw : Hid (OwnB w8 (w8.alloc (.cells #[.int .u8 1] 5)) (.slice (some ⟨w8.heap.size, 0, none⟩) 1 1) [1]) := Lib.hid (OwnB.new w8 w8 (Nat.le_refl _) [1] rfl (by decide))
  have hBy := Lib.hid ((hB8.out.keep ((Keeps.refl (fun _ => False) w8).alloc (.cells #[.int .u8 1] 5)) (fun _ _ f => f)).bytes)
  have hpl := put_short (fun q hq => right_line hr.out q hq)
  have hpl2 : (putAll L).length ≤ 6208 := by omega
  have hgot : Hid (ansC (putAll L) = (L, 0)) := Lib.hid (ans_put hr.out)
  clear hpl
  generalize putAll L = B at hgot hpl2 hBy ⊢
  clear hB8
  go_wp2_with ((with_reducible refine at_slot 73 ?_); refine wpList_append_b rfl (.tmp 71) (.tmp 72) 31 rfl i0 Tryz.underlying31 hi0 hz0 hz1 hz2 w8 _ [1] rfl hOw.out _ rfl B hBy.out (by simp; omega) ?_; intro p9 c9 w9 hO9 hG9)
  rw [show ([1] : List UInt8).length + B.length = 1 + B.length from rfl] at hO9 hG9
  have hk89 : Keeps (fun _ => False) w8 w9 := ((Keeps.refl (fun _ => False) w8).alloc (.cells #[.int .u8 1] 5)).trans' hG9.out.k (fun i e => .inr (hOw.out.2.1 i e))
  have hO9c := Lib.hid (hO8.out.keep hk89 (fun _ _ f => f))
  have hJ9 := Lib.hid (hJ8.out.keep hk89)
  have hk9 := Lib.hid (hk8.out.trans hk89)
  have hE9 := Lib.hid hO9.out.bytes
  have hap := Lib.hid (append_js w6 w9 jb 200 1 0 ev [] D _ ([1] ++ B) hJ9 (Lib.hid hE9.out) (by simp; omega) (Lib.hid (own_bytes_notD hO9.out)))
  have hal : Hid (allowedB ([1] ++ B) = true) := Lib.hid (by unfold allowedB; simp; omega)
  have hfit : Hid (usedOf [] + takes ([1] ++ B).length ≤ hz 200) := Lib.hid (by
    show 0 + (([1] ++ B).length + 82) / 64 ≤ (200 - 2) / 2
    simp only [List.length_append, List.length_singleton]
    omega)
  clear hk89 hO8 hJ8 hk8 hOw hBy hG9
  refine hap.out.mono ?_
  rintro x w10 ⟨cc, ev', D', rfl, kJ, -, hDb', hout⟩
  have hres : cc = 0 ∧ JS w6 w10 jb 200 1 0 ev' ([] ++ [[1] ++ B]) D' := by
    rcases hout with ⟨-, h2, -⟩ | ⟨-, -, h2, -⟩ | ⟨h1, -, -, -, h2⟩ | ⟨-, -, -, h2, -⟩
    · exact absurd hal.out h2
    · exact absurd hfit.out h2
    · exact ⟨h1, h2⟩
    · have := hDb7.out.2; omega
  obtain ⟨rfl, hJ⟩ := hres
  have hJ10 := Lib.hid hJ
  have hO10 := Lib.hid (own_line_J hO9c.out kJ)
  have hk10 : Hid (Keeps (fun _ => False) w w10) := Lib.hid (KeepJ.no hk9.out kJ (by rw [hb1'.out]; exact Nat.le_refl _))
  have hdb : Hid (D'.b = db) := Lib.hid (hDb'.trans hDb7.out.1)
  obtain ⟨q1, q2, q3, q4⟩ := crash_la hJ.q
  have hcr := Lib.hid (dk_crash D' w10 (.slice none 0 0) [] hJ.j.dk ⟨none, 0, rfl, by simp, by simp⟩ (by simp))
  rw [hdb.out] at hcr
  have hcq : Hid (Quiet (D'.crash []) ∧ JD (D'.crash []).la 200 1 0 [[1] ++ B] ∧ (D'.crash []).n = 200 ∧ (D'.crash []).b = db) := Lib.hid ⟨q4, by rw [q1]; exact hJ.jd, by rw [q2]; exact hJ.n, by rw [q3]; exact hdb.out⟩
  clear hap hal hfit hout hJ q1 q2 q3 q4 hDb' hDb7 kJ hO9c hk9 hJ9 hE9 hO9 hJ10
  go_wp2_with fail
  refine hcr.out.mono ?_
  rintro x w11 ⟨rfl, hD, k11⟩
  have hO11 := Lib.hid (own_line_D hO10.out k11)
  have hk11 : Hid (Keeps (fun _ => False) w w11) := Lib.hid (keepNo2 hk10.out k11 (by rw [hb1'.out]; exact Nat.le_refl _))
  have hop := Lib.hid (open_js w11 200 1 0 [[1] ++ B] (D'.crash []) (by rw [hb1'.out]; exact hk11.out.size) (Lib.hid hD) (Lib.hid hcq.out.1) (Lib.hid hcq.out.2.1) (Lib.hid hcq.out.2.2.1))
  rw [hcq.out.2.2.2] at hop
  clear hD k11 hO10 hk10 hcr hcq
  go_wp2_with fail
  refine hop.out.mono ?_
  rintro x w12 ⟨k12, jb2, ev2, rfl, -, hJ⟩
  have hO12 := Lib.hid (own_line_D hO11.out k12)
  have hk12 : Hid (Keeps (fun _ => False) w w12) := Lib.hid (keepNo2 hk11.out k12 (by rw [hb1'.out]; exact Nat.le_refl _))
  have hall := Lib.hid (all_js w11 w12 jb2 200 1 0 ev2 [[1] ++ B] (D'.crash []) (Lib.hid hJ))
  clear hJ k12 hO11 hk11 hop
  go_wp2_with fail
  refine hall.out.mono ?_
  rintro x w13 ⟨p13, c13, rfl, hE, k13⟩
  obtain ⟨g, o, q, d, rfl, hc0, hb0⟩ := hE.at.get (k := 0) (l := [1] ++ B) rfl
  rw [Nat.add_zero] at hc0
  have eL : ([1] ++ B).length = B.length + 1 := by simp
  rw [eL] at hc0 hb0
  obtain ⟨gq, oq, rfl, hqd, -⟩ := hb0.open (by simp)
  rw [eL] at hqd
  obtain ⟨pp, hpp⟩ : ∃ pp, (if d = 1 then some (⟨gq, oq, none⟩ : Addr) else some ⟨gq, oq + 1, none⟩) = pp := ⟨_, rfl⟩
  have hx13 := Lib.hid (tail_bytes (m := B.length) rfl hb0 hpp)
  have hO13 := Lib.hid (hO12.out.keep k13 (fun _ _ f => f))
  have hk13 := Lib.hid (hk12.out.trans k13)
  have n1 : ¬ ((B.length + 1 : Nat) : Int) < 1 := by omega
  clear hE k13 hO12 hk12 hall hb0 eL
  go_wp2_with fail
  have hg := Lib.hid (get_any _ B w13 hx13 (by omega))
  rw [hgot.out] at hg
  clear hgot hx13 hpp hc0 n1 hqd
  refine hg.out.mono ?_
  rintro x w14 ⟨p14, c14, rfl, hX, k14⟩
  simp only [show ((0 : Nat) : Int) = 0 from rfl] at hX ⊢
  have hX14 := Lib.hid hX
  have hO14 := Lib.hid (hO13.out.keep k14 (fun _ _ f => f))
  have hk14 := Lib.hid (hk13.out.trans k14)
  clear hg hX k14 hO13 hk13
  go_wp2_with fail
  refine (lines_c (.slice none 0 0) _ [] L w14 (Lib.hid (RowsAt.nil _)) (Lib.hid (hO14.out.at lineVals_len)) (Lib.hid (by decide)) hr).mono ?_
  rw [merge_nil _ L (by simp) (fun q hq => value_word (right_line hr.out q hq))]
  rintro x w15 ⟨p15, c15, rfl, hC, k15⟩
  rw [List.length_map] at hC ⊢
  have hC15 := Lib.hid (hC.at cVals_len)
  have hX15 := Lib.hid (hX14.out.keep k15)
  have hO15 := Lib.hid (hO14.out.keep k15 (fun _ _ f => f))
  have hk15 := Lib.hid (hk14.out.trans k15)
  clear hC k15 hX14 hO14 hk14
  go_wp2_with fail
  go_loopw [21, 20] (fun iv yv wr => ∃ (k : Nat) (q : Option Addr) (d : Nat), k ≤ L.length ∧ iv = .int .i64 k ∧ yv = .slice q k d ∧ Hid (RowsAt 4 lineVals wr (.slice q k d) (L.take k)) ∧ Hid (Keeps (fun _ => False) w15 wr)) (fun iv _ _ => L.length - (intOf iv).toNat)
  case atStart => exact ⟨0, none, 0, by omega, rfl, rfl, Lib.hid (RowsAt.nil _), Lib.hid (Keeps.refl _ _)⟩
  case round =>
    obtain ⟨k, q, d, hk, rfl, rfl, hY, hKr⟩ := hrel
    by_cases hlk : k < L.length
    · obtain ⟨x, hx⟩ : ∃ x, L[k]? = some x := ⟨_, List.getElem?_eq_getElem hlk⟩
      have hxB := right_line hr.out x (List.mem_of_getElem? hx)
      obtain ⟨g, o, rfl, hrow0⟩ := hC15.out.open (by rw [List.length_map]; omega)
      have hrow1 := hKr.out.rangeAt (hrow0 k (chL x) (by rw [List.getElem?_map, hx]; rfl)) id
      obtain ⟨N, hN⟩ : ∃ N : ByteArray, N = ⟨x.name.toArray⟩ := ⟨_, rfl⟩
      obtain ⟨F, hF⟩ : ∃ N : ByteArray, N = ⟨x.leaf.toArray⟩ := ⟨_, rfl⟩
      obtain ⟨V, hV⟩ : ∃ N : ByteArray, N = ⟨x.value.toArray⟩ := ⟨_, rfl⟩
      obtain ⟨T2, hT2⟩ : ∃ N : ByteArray, N = ⟨(textC (cmdL x)).toArray⟩ := ⟨_, rfl⟩
      have hcells : cVals (chL x) = [.int .i64 x.head, .string N, .string F, .string ⟨#[]⟩, .string ⟨#[]⟩, .string V] := by rw [hN, hF, hV]; rfl
      rw [hcells] at hrow1
      have hrow : Hid (wr.rangeAt g (o + k * 6) [.int .i64 x.head, .string N, .string F, .string ⟨#[]⟩]) := Lib.hid (fun j u hu => hrow1 j u (by
        have hj : j < 4 := (List.getElem?_eq_some_iff.1 hu).1
        rcases j with _ | _ | _ | _ | j
        · exact hu
        · exact hu
        · exact hu
        · exact hu
        · omega))
      have hnew := hrow1 5 (.string V) rfl
      have hrd := Lib.hid (read_set hxB)
      have hlen2 := text_cmd_len hxB
      have hset : Hid (setR x (L.take k) = (L.take (k + 1), 0)) := Lib.hid (by
        unfold setR
        rw [if_pos hxB, set_take hr.out hx, if_pos (by rw [List.length_take]; omega)])
      have hsm := line_small hxB
      have hszs : Hid (N.size ≤ 100 ∧ F.size ≤ 100 ∧ V.size ≤ 100 ∧ T2.size ≤ 200) := Lib.hid (by rw [hN, hF, hV, hT2]; exact ⟨hsm.1, hsm.2.1, hsm.2.2, hlen2⟩)
      have hxe : Hid ((⟨x.head, N.data.toList, F.data.toList, V.data.toList⟩ : LineD) = x) := Lib.hid (by rw [hN, hF, hV])
      have hvs : Hid (N = ⟨(cmdL x).name.toArray⟩ ∧ F = ⟨(cmdL x).leaf.toArray⟩ ∧ V = ⟨(cmdL x).value.toArray⟩ ∧ T2 = ⟨(textC (cmdL x)).toArray⟩ ∧ T2.data.toList = textC (cmdL x)) := Lib.hid ⟨hN, hF, hV, hT2, by rw [hT2]⟩
      have m1 : (0 : Int) ≤ (k : Int) := by omega
      have m2 : (k : Int) < (L.length : Int) := by omega
      have hB0 := Lib.hid (BlkAt.new wr 50 [.int .i64 x.head, .string N, .string F, .string ⟨#[]⟩])
      have hkb := (Keeps.refl (fun _ => False) wr).alloc (.cells #[.int .i64 x.head, .string N, .string F, .string ⟨#[]⟩] 50)
      have hnew2 := (hkb.cell (p := ⟨g, o + k * 6 + 5, none⟩) (World.block_lt_of_cell? _ _ hnew) id).trans hnew
      have hYb := Lib.hid (hY.out.keep hkb)
      have hYl : Hid (0 < (L.take k).length → ∀ i, (Value.slice q k d).ownBlock = some i → i < wr.heap.size) := Lib.hid (fun h0 => hY.out.lt h0 (fun l => by rw [lineVals_len]; decide))
      have hbl : Hid (w15.heap.size ≤ wr.heap.size) := Lib.hid hKr.out.size
      have hKb := Lib.hid (hKr.out.trans hkb)
      have s1 := hB0.out.cell 3 _ rfl
      have s2 := hB0.out.frozen 3
      obtain ⟨hd, hhd⟩ : ∃ h, x.head = h := ⟨_, rfl⟩
      rw [hhd] at hrow hB0 hkb hnew2 hYb hKb s1 s2 hxe
      have hhd' := Lib.hid hhd
      clear hhd hrow0 hrow1 hN hF hV hT2 hcells hnew hsm hlen2 hY hkb hx
      go_upto_region 23 with (first | ((with_reducible refine at_slot 123 ?_); refine wpList_load_mid rfl 50 (.tmp 122) rfl g (o + k * 6) rfl [.int .i64 hd, .string N, .string F, .string ⟨#[]⟩] _ hrow.out Tryz.underlying50 rfl lineInfo ?_) | ((with_reducible refine at_store 22 ?_); refine wpList_store_new rfl 50 (.tmp 22) (.tmp 123) rfl _ #[.int .i64 hd, .string N, .string F, .string ⟨#[]⟩] rfl rfl lineInfo rfl (line_one _ _ _ _) ?_))
      obtain ⟨b, hb⟩ : ∃ b, wr.heap.size = b := ⟨_, rfl⟩
      rw [hb] at hB0 s1 s2 hYl hbl ⊢
      generalize wr.alloc (.cells #[.int .i64 hd, .string N, .string F, .string ⟨#[]⟩] 50) = Wb at hB0 hnew2 hYb hKb s1 s2 ⊢
      go_upto_region 24 with fail
      have kS : Keeps (fun i => i = b) Wb (Wb.setCell ⟨b, 3, none⟩ (.string V)) := (Keeps.refl (fun i => i = b) Wb).setCell (p := ⟨b, 3, none⟩) (.inl rfl) (.string V)
      have hB1 := Lib.hid (hB0.out.set 3 (.string V))
      have hY1 := Lib.hid (hYb.out.keepF kS (fun h0 i e e2 => by have := hYl.out h0 i e; omega))
      have hK1 : Hid (Keeps (fun _ => False) w15 (Wb.setCell ⟨b, 3, none⟩ (.string V))) := Lib.hid (hKb.out.trans' kS (fun i e => .inr (by rw [e]; exact hbl.out)))
      generalize Wb.setCell ⟨b, 3, none⟩ (.string V) = W1 at hB1 hY1 hK1 ⊢
      have hw1 := hk15.out.trans hK1.out
      have hWr := pWrite_any (cmdL x) N F V T2 W1 (Lib.hid (ht.out.keep hw1)) (Lib.hid (htab.out.keep hw1)) (Lib.hid hvs.out.1) (Lib.hid hvs.out.2.1) (Lib.hid hvs.out.2.2.1) (by show -9223372036854775808 ≤ (0 : Int); decide) (by show (0 : Int) ≤ 9223372036854775807; decide) (Lib.hid hvs.out.2.2.2.1) (by have := hszs.out.2.2.2; omega) true (Lib.hid ⟨fun _ => hrd.out, fun _ => rfl⟩)
      have hWr2 : Hid (Calls Tryz.prog 18 #[.agg #[.int .i64 1, .int .i64 hd, .string N, .string F, .string V, .int .i64 0]] W1 (NewRes (.tuple #[.string T2, .int .i64 0]) W1)) := Lib.hid (by rw [← hhd'.out]; exact hWr)
      have hRe : Hid (∀ W, Keeps (fun _ => False) w W → Calls Tryz.prog 19 #[.string T2] W fun e w' => e = .returned (.tuple #[.agg #[.int .i64 1, .int .i64 hd, .string N, .string F, .string V, .int .i64 0], .int .i64 0]) ∧ Keeps (fun _ => False) W w') := Lib.hid (fun W kW => by
        have h := read_any T2 W (Lib.hid (ht.out.keep kW)) (by have := hszs.out.2.2.2; omega)
        rw [hvs.out.2.2.2.2, hrd.out] at h
        refine h.mono ?_
        rintro e w' ⟨h1, h2⟩
        refine ⟨?_, h2⟩
        rw [h1, ← hhd'.out, hvs.out.1, hvs.out.2.1, hvs.out.2.2.1]
        rfl)
      clear hw1 hWr kS hB0 hYb hKb s1 s2 hnew2 hrow
      go_wp2_with ((with_reducible refine at_slot 131 ?_); refine wpList_load_mid rfl 50 (.tmp 22) rfl b 0 rfl [.int .i64 hd, .string N, .string F, .string V] _ hB1.out.range Tryz.underlying50 rfl lineInfo ?_)
      refine hWr2.out.mono ?_
      rintro e W2 ⟨rfl, k2⟩
      have hY2 := Lib.hid (hY1.out.keep k2)
      have hK2 := Lib.hid (hK1.out.trans k2)
      clear hWr2 k2 hY1 hK1 hB1
      go_wp2_with fail
      refine (hRe.out _ (hk15.out.trans hK2.out)).mono ?_
      rintro e W3 ⟨rfl, k3⟩
      have hB3 := Lib.hid (BlkAt.new W3 56 [.int .i64 1, .int .i64 hd, .string N, .string F, .string V, .int .i64 0])
      have k3' := k3.alloc (.cells #[.int .i64 1, .int .i64 hd, .string N, .string F, .string V, .int .i64 0] 56)
      have hY3 := Lib.hid (hY2.out.keep k3')
      have hK3 := Lib.hid (hK2.out.trans k3')
      clear hRe k3 k3' hY2 hK2
      go_upto_region 26 with ((with_reducible refine at_store 25 ?_); refine wpList_store_new rfl 56 (.tmp 25) (.tmp 139) rfl _ #[.int .i64 1, .int .i64 hd, .string N, .string F, .string V, .int .i64 0] rfl rfl cmdInfo rfl (cmd_one _ _ _ _ _ _) ?_)
      obtain ⟨b3, hb3⟩ : ∃ b, W3.heap.size = b := ⟨_, rfl⟩
      rw [hb3] at hB3 ⊢
      generalize W3.alloc (.cells [.int .i64 1, .int .i64 hd, .string N, .string F, .string V, .int .i64 0].toArray 56) = W4 at hB3 hY3 hK3 ⊢
      have hr4 : Hid (W4.rangeAt b3 1 [.int .i64 hd, .string N, .string F, .string V]) := Lib.hid (fun j u hu => by
        have hj : j < 4 := (List.getElem?_eq_some_iff.1 hu).1
        have := hB3.out.range (1 + j) u (by
          rcases j with _ | _ | _ | _ | j
          · exact hu
          · exact hu
          · exact hu
          · exact hu
          · omega)
        rwa [Nat.zero_add] at this)
      clear hb3 hB3
      have hsa := Lib.hid (set_any _ (L.take k) hd N F V W4 hY3 (Lib.hid (take_right hr.out k)) (by have := hszs.out.1; omega) (by have := hszs.out.2.2.1; omega))
      rw [hxe.out, hset.out] at hsa
      go_wp2_with ((with_reducible refine at_slot 144 ?_); refine wpList_load_mid rfl 50 (.tmp 143) rfl b3 1 rfl [.int .i64 hd, .string N, .string F, .string V] _ hr4.out Tryz.underlying50 rfl lineInfo ?_)
      refine hsa.out.mono ?_
      rintro e W5 ⟨p5', c5', rfl, hZ, k5⟩
      simp only [show ((0 : Nat) : Int) = 0 from rfl, List.length_take, Nat.min_eq_left (show k + 1 ≤ L.length from hlk)] at hZ ⊢
      have hZ5 := Lib.hid hZ
      have hK5 := Lib.hid (hK3.out.trans k5)
      clear hsa hZ k5 hY3 hK3 hr4
      go_wp2_with fail
      exact ⟨⟨k + 1, p5', c5', by omega, by go_num, rfl, hZ5, hK5⟩, by simp [intOf]; omega⟩
    · obtain rfl : k = L.length := by omega
      rw [List.take_length] at hY
      have hX5 := Lib.hid (hX15.out.keep hKr.out)
      have hO5 := Lib.hid ((hO15.out.keep hKr.out (fun _ _ f => f)).at lineVals_len)
      have hk5 := Lib.hid (hk15.out.trans hKr.out)
      clear hX15 hO15 hk15 hKr hC15
      go_wp2_with fail
      refine (same_c _ _ L L true _ hX5 hO5 hr hr (Lib.hid ⟨fun _ => rfl, fun _ => rfl⟩)).mono ?_
      rintro e w16 ⟨rfl, k16⟩
      have hO6 := Lib.hid (hO5.out.keep k16)
      have hY6 := Lib.hid (hY.out.keep k16)
      have hk6 := Lib.hid (hk5.out.trans k16)
      clear hX5 hO5 hY hk5 k16
      go_wp2_with fail
      refine (same_c _ _ L L true _ hY6 hO6 hr hr (Lib.hid ⟨fun _ => rfl, fun _ => rfl⟩)).mono ?_
      rintro e w17 ⟨rfl, k17⟩
      have hk7 := Lib.hid (hk6.out.trans k17)
      clear hO6 hY6 hk6 k17
      go_wp2_with fail
      go_ret
      exact ⟨rfl, hk7.out⟩
end
end Go.Proofs.YtdannodhlaaoiaaGreatDoor
/- Lines of the document that came in, of a bulk that is bounded. -/
set_option linter.unusedVariables false
set_option linter.unusedSimpArgs false
namespace Go.Proofs.YtdannodhlaaoiaaGreatDoor
open Go.ChangeShapes Go.WideShapes Go.ChangeAt Go.RowKit Go.Deep

theorem bulk_part {H : Type} {d : DataW H} {l : List (DataW H)} (h : d ∈ l) : Rows.uptoBulk d ≤ Rows.uptoBulkAll l := by
  induction l with
  | nil => cases h
  | cons x r ih =>
    simp only [Rows.uptoBulkAll]
    rcases List.mem_cons.1 h with e | e
    · subst e; omega
    · have := ih e; omega
theorem bulk_len {H : Type} (l : List (DataW H)) : l.length ≤ Rows.uptoBulkAll l := by
  induction l with
  | nil => simp [Rows.uptoBulkAll]
  | cons x r ih =>
    have h1 : 1 ≤ Rows.uptoBulk x := by
      cases x with
      | lit l => cases l <;> simp [Rows.uptoBulk]
      | _ => simp [Rows.uptoBulk]
    simp only [Rows.uptoBulkAll, List.length_cons]; omega
theorem listX4 {α : Type} {l : List α} (h : l.length = 4) : ∃ a b c d, l = [a, b, c, d] := by
  match l, h with
  | [a, b, c, d], _ => exact ⟨a, b, c, d, rfl⟩
theorem cxInt : Tryz.prog.cellsOf 3 = 1 := by kernel_rfl
theorem cxStr : Tryz.prog.cellsOf 9 = 1 := by kernel_rfl
theorem cxLine : Tryz.prog.cellsOf 62 = 4 := by kernel_rfl
theorem choose_l {α : Type} (n : Nat) (P : Nat → α → Prop) (h : ∀ i, i < n → ∃ a, P i a) : ∃ l : List α, l.length = n ∧ ∀ i a, l[i]? = some a → P i a := by
  induction n with
  | zero => exact ⟨[], rfl, fun i a e => by simp at e⟩
  | succ n ih =>
    obtain ⟨l, hl, hP⟩ := ih (fun i hi => h i (by omega))
    obtain ⟨a, ha⟩ := h n (by omega)
    refine ⟨l ++ [a], by simp [hl], fun i b e => ?_⟩
    by_cases hi : i < l.length
    · rw [List.getElem?_append_left hi] at e; exact hP i b e
    · rw [List.getElem?_append_right (by omega)] at e
      have : i = n := by have := (List.getElem?_eq_some_iff.1 e).1; simp at this; omega
      subst this
      rw [hl, Nat.sub_self] at e
      injection e with e; subst e; exact ha
section
variable {H : Type} {enc : TypeId × Value → H} {W : World}
set_option maxRecDepth 100000 in
theorem line_came {fuel : Nat} {cs : List Value} {x : DataW H × List MemPlace} {M : Nat} (hl : cs.length = 4) (h : DataW.trod enc Tryz.prog W 0 (fun _ => true) true fuel 62 cs = some x) (hM : Rows.uptoBulk x.1 ≤ M) :
    ∃ l : LineD, (l.name.length ≤ M ∧ l.leaf.length ≤ M ∧ l.value.length ≤ M) ∧ cs = lineVals l := by
  obtain ⟨c0, c1, c2, c3, rfl⟩ := listX4 hl
  obtain ⟨xs, n, -, hx, -, hlen, hf⟩ := DataW.trod_struct Tryz.underlying62 h
  obtain ⟨y0, y1, y2, y3, rfl⟩ := listX4 hlen
  have f0 : DataW.trod enc Tryz.prog W 0 (fun _ => true) true n 3 ((([c0, c1, c2, c3] : List Value).drop 0).take (Tryz.prog.cellsOf 3)) = some y0 := hf 0 _ rfl
  rw [cxInt] at f0
  have f1 : DataW.trod enc Tryz.prog W 0 (fun _ => true) true n 9 ((([c0, c1, c2, c3] : List Value).drop 1).take (Tryz.prog.cellsOf 9)) = some y1 := hf 1 _ rfl
  rw [cxStr] at f1
  have f2 : DataW.trod enc Tryz.prog W 0 (fun _ => true) true n 9 ((([c0, c1, c2, c3] : List Value).drop 2).take (Tryz.prog.cellsOf 9)) = some y2 := hf 2 _ rfl
  rw [cxStr] at f2
  have f3 : DataW.trod enc Tryz.prog W 0 (fun _ => true) true n 9 ((([c0, c1, c2, c3] : List Value).drop 3).take (Tryz.prog.cellsOf 9)) = some y3 := hf 3 _ rfl
  rw [cxStr] at f3
  obtain ⟨n0, e0, -, w0⟩ := DataW.trod_int Tryz.underlying3 f0
  obtain ⟨N, e1, r1, -⟩ := DataW.trod_string Tryz.underlying9 f1
  obtain ⟨F, e2, r2, -⟩ := DataW.trod_string Tryz.underlying9 f2
  obtain ⟨V, e3, r3, -⟩ := DataW.trod_string Tryz.underlying9 f3
  injection e0 with e0 _; injection e1 with e1 _; injection e2 with e2 _; injection e3 with e3 _
  subst e0; subst e1; subst e2; subst e3
  subst r1; subst r2; subst r3
  subst hx
  simp only [List.map_cons, List.map_nil, Rows.uptoBulk, Rows.uptoBulkAll] at hM
  exact ⟨⟨n0, N.data.toList, F.data.toList, V.data.toList⟩, ⟨by show N.data.toList.length ≤ M; omega, by show F.data.toList.length ≤ M; omega, by show V.data.toList.length ≤ M; omega⟩, rfl⟩
theorem lines_came {fuel : Nat} {x0 : Value} {x : DataW H × List MemPlace} {M : Nat} (h : DataW.trod enc Tryz.prog W 0 (fun _ => true) true fuel 22 [x0] = some x) (hM : Rows.uptoBulk x.1 ≤ M) :
    ∃ (ls : List LineD) (p : Option Addr) (c : Nat), x0 = .slice p ls.length c ∧ RowsAt 4 lineVals W (.slice p ls.length c) ls ∧ LinesLt ls M ∧ ls.length ≤ M := by
  rcases Go.Deep.open_slice Tryz.underlying22 h with ⟨hcs, -⟩ | ⟨a, len, cap, m, n, D, Pl, hcs, -, hlc, hm, hmm, hx, hall⟩
  · injection hcs with hcs _; subst hcs
    exact ⟨[], none, 0, rfl, RowsAt.nil _, (fun l hl => by cases hl), by simp⟩
  · injection hcs with hcs _; subst hcs
    simp only [if_true] at hmm
    subst hmm
    subst hx
    simp only [Rows.uptoBulk] at hM
    have hex : ∀ i, i < len → ∃ l : LineD, (l.name.length ≤ M ∧ l.leaf.length ≤ M ∧ l.value.length ≤ M) ∧ ∀ j, j < 4 → W.cell? ((a.add (i * 4)).add j) = (lineVals l)[j]? := fun i hi => by
      obtain ⟨cs', h1, h2⟩ := hall i (by omega)
      rw [cxLine] at h1
      obtain ⟨-, hl, hc⟩ := World.cells?_some h1
      obtain ⟨l, hok, rfl⟩ := line_came (M := M) hl h2 (Nat.le_trans (bulk_part (List.mem_map.2 ⟨i, List.mem_range.2 hi, rfl⟩)) (by omega))
      exact ⟨l, hok, hc⟩
    have hlenM : len ≤ M := by
      have h1 := bulk_len ((List.range len).map D)
      rw [List.length_map, List.length_range] at h1
      omega
    obtain ⟨ls, hlen2, hls⟩ := choose_l len _ hex
    refine ⟨ls, some a, m, by rw [hlen2], ⟨some a, m, rfl, (fun e => nomatch e), by rw [hlen2]; exact hlc, fun h0 => ?_⟩, fun l hl => ?_, by rw [hlen2]; exact hlenM⟩
    · obtain ⟨b, o, s⟩ := a
      have h00 := (hls 0 ls[0] (List.getElem?_eq_getElem h0)).2 0 (by omega)
      have hsn : s = none := by simpa [Addr.add] using World.cell?_spot (h00.trans (show (lineVals ls[0])[0]? = some (.int .i64 ls[0].head) from rfl))
      subst hsn
      refine ⟨b, o, rfl, fun i l hl j u hu => ?_⟩
      have hj : j < 4 := by have := (List.getElem?_eq_some_iff.1 hu).1; simpa [lineVals] using this
      have := (hls i l hl).2 j hj
      rw [hu, Addr.add_mid, Addr.add_mid] at this
      exact this
    · obtain ⟨i, hi, rfl⟩ := List.mem_iff_getElem.1 hl
      exact (hls i _ (List.getElem?_eq_getElem hi)).1
end
end Go.Proofs.YtdannodhlaaoiaaGreatDoor
