/- LsdbActs, walked (gen_lmg.py writes this). -/
import Derived.Test.YtdaongflpllfhaaLS25
set_option linter.unusedVariables false
set_option linter.unusedSimpArgs false
set_option linter.unusedVariables false
set_option linter.unusedSimpArgs false
namespace Go.Proofs.Ytdaongflpllfhaa
open Go.RowKit

theorem and_nf (b : Bool) : (b && false) = false := by cases b <;> rfl
set_option maxRecDepth 100000 in
set_option maxHeartbeats 16000000 in
theorem lLsdbActs_walk (v : Value) (rs : List ActM) (w : World) (hv : Hid (RowsAt 12 rowA w v rs)) (hA : Hid (∀ a ∈ rs, ActC w a)) (hal : rs.length ≤ 9223372036854775807) :
    Calls Try.prog 3 #[v] w fun e w' => e = .returned (.bool true) ∧ Keeps (fun _ => False) w w' := by
  obtain ⟨p, c, e0, hp0, hc0, hr0⟩ := hv.out
  subst e0
  clear hp0 hc0 hr0
  go_enter Try.func3, Try.ntmps3
  go_wp2_with fail
  refine (lwNone_any _).mono ?_
  rintro e w0 ⟨rfl, rfl⟩
  go_wp2_with fail
  refine (ldFind_nil 0 0 0 _).mono ?_
  rintro e w1 ⟨rfl, k1⟩
  unfold zeroLsa
  have hK1 := Lib.hid (k1.alloc (.cells #[.int .i64 0, .int .i64 0, .int .u32 0, .int .u32 0, .int .i64 0, .slice none 0 0, .int .u32 0, .slice none 0 0, .int .i64 0] 29))
  clear k1
  go_wp2_with ((with_reducible refine at_store 3 ?_); refine wpList_store_new rfl 29 (.tmp 3) (.tmp 31) rfl _ _ rfl rfl lsaInfo rfl (lsa_one _ _ _ _ _ _ _ _ _ (slice_one _ _ _) (slice_one _ _ _)) ?_)
  refine (lwNone_any _).mono ?_
  rintro e w0 ⟨rfl, rfl⟩
  go_wp2_with fail
  refine (ldPut_nil0 _).mono ?_
  rintro e w2 ⟨rfl, k2⟩
  have hK2 := Lib.hid (hK1.out.trans k2)
  clear k2 hK1
  go_wp2_with fail
  refine (lwKeeps_any _).mono ?_
  rintro e w3 ⟨rfl, k3⟩
  have hK3 := Lib.hid (hK2.out.trans k3)
  clear k3 hK2
  go_wp2_with fail
  refine (lwNone_any _).mono ?_
  rintro e w0 ⟨rfl, rfl⟩
  go_wp2_with fail
  refine (ldDrop_nil 0 0 0 _).mono ?_
  rintro e w4 ⟨rfl, k4⟩
  have hK4 := Lib.hid (hK3.out.trans k4)
  clear k4 hK3
  go_wp2_with fail
  refine (lwNone_any _).mono ?_
  rintro e w0 ⟨rfl, rfl⟩
  go_wp2_with fail
  refine (ldTick_nil _).mono ?_
  rintro e w0 ⟨rfl, rfl⟩
  go_wp2_with fail
  refine (lwNone_any _).mono ?_
  rintro e w0 ⟨rfl, rfl⟩
  go_wp2_with fail
  refine (ldHeads_nil _).mono ?_
  rintro e w0 ⟨rfl, rfl⟩
  go_wp2_with fail
  refine (lwNone_any _).mono ?_
  rintro e w0 ⟨rfl, rfl⟩
  go_wp2_with fail
  refine (ldCount_nil _).mono ?_
  rintro e w0 ⟨rfl, rfl⟩
  go_wp2_with fail
  refine (lwNone_any _).mono ?_
  rintro e w0 ⟨rfl, rfl⟩
  go_wp2_with fail
  refine (ldCopy_nil _).mono ?_
  rintro e w0 ⟨rfl, rfl⟩
  go_wp2_with fail
  refine (ldNew_g _).mono ?_
  rintro e w5 ⟨b, r, rfl, hD, hb0, hr0, k5⟩
  have hB0 : Hid (BothD w5 b r 0 (.slice none 0 0) []) := Lib.hid ⟨hD, ⟨List.Pairwise.nil, by simp, by simp⟩, RowsAt.nil _, by simp⟩
  have hK5 := Lib.hid (hK4.out.trans k5)
  have hnew : Hid (w.heap.size ≤ r) := Lib.hid (by have := hK4.out.size; omega)
  have hltr := Lib.hid hD.lt.2
  clear hD hb0 hr0 k5 hK4
  go_upto_region 6 with fail
  try simp only [Act.put, sA, sZ, sS]
  go_cut [7, 8] (fun dv lv wx => dv = .pointer (some ⟨b, 0, none⟩) ∧ lv = .slice none 0 0 ∧ wx = w5)
  case first =>
    as_aux_lemma =>
    go_wp2_with fail
    go_meet
    case rel => exact ⟨rfl, rfl, rfl⟩
  case rest =>
  as_aux_lemma =>
  obtain ⟨rfl, rfl, hw⟩ := hcut
  have hw2 : w5 = wc := hw.symm
  subst hw2
  clear hw
  go_wp2_with fail
  go_loopw [9, 8] (fun iv lv wr => ∃ (i N : Nat) (ms : List LsaM) (pl : Option Addr) (cl : Nat), i ≤ rs.length ∧ i ≤ 100 ∧ iv = .int .i64 i ∧ lv = .slice pl ms.length cl ∧ N ≤ 1000 * i ∧ Hid (BothD wr b r N (.slice pl ms.length cl) ms) ∧ Hid (Keeps (fun _ => False) w wr) ∧ Hid (r < wr.heap.size)) (fun iv _ _ => rs.length - (intOf iv).toNat)
  case atStart => exact ⟨0, 0, [], none, 0, by omega, by omega, rfl, rfl, by omega, hB0, hK5, hltr⟩
  case round =>
    obtain ⟨i, N, ms, pl, cl, hi, hi2, rfl, rfl, hN, hB, hK, hr⟩ := hrel
    by_cases hil : i < rs.length
    · by_cases h100 : i < 100
      · as_aux_lemma =>
        obtain ⟨a, ha⟩ : ∃ a, rs[i]? = some a := ⟨_, List.getElem?_eq_getElem hil⟩
        obtain ⟨g, o, rfl, hr0⟩ := RowsAt.open hv.out (by omega)
        have hra : Hid (wr.rangeAt g (o + i * 12) (rowA a)) := Lib.hid (hK.out.rangeAt (hr0 i a ha) (fun f => f))
        have hgw : Hid (g < wr.heap.size) := Lib.hid (World.block_lt_of_cell? _ _ (hra.out 0 _ rfl))
        have hac : Hid (ActC w a) := Lib.hid (hA.out a (List.mem_of_getElem? ha))
        have hlr : Hid (wr.rangeAt g (o + i * 12 + 1) (lsaRow a.m)) := Lib.hid (rowA_lsa_at hra.out)
        have hIa := Lib.hid (hac.out.l.at'.keepC hK.out (fun _ _ _ _ _ f => f))
        have hxa := Lib.hid hac.out.l.x
        have hB1 := hB
        have hBr := hB
        obtain ⟨what, ⟨⟨age, type, id, adv, seq, links, mask, routers, cost⟩, p5, c5, p7, c7⟩, wth, n⟩ := a
        have hwhat := hac.out.what
        have hwth := hac.out.wth
        have hn := hac.out.n
        unfold inI at hwhat hwth hn
        simp only at hlr hIa hxa hwhat hwth hn
        have hmsl := hB.out.len
        have hili : (i : Int) < (rs.length : Int) := by omega
        have h100i : (i : Int) < 100 := by omega
        have m1 : (0 : Int) ≤ (i : Int) := by omega
        clear hr0 ha hac
        obtain ⟨Wx, hWx⟩ : ∃ Wx, Wx = wr.alloc (.cells #[.int .i64 age, .int .i64 type, .int .u32 id, .int .u32 adv, .int .i64 seq, .slice p5 links.length c5, .int .u32 mask, .slice p7 routers.length c7, .int .i64 cost] 48) := ⟨_, rfl⟩
        have hX0 : Hid (BlkAt Wx wr.heap.size 48 [.int .i64 age, .int .i64 type, .int .u32 id, .int .u32 adv, .int .i64 seq, .slice p5 links.length c5, .int .u32 mask, .slice p7 routers.length c7, .int .i64 cost]) := Lib.hid (by rw [hWx]; exact BlkAt.new wr 48 [.int .i64 age, .int .i64 type, .int .u32 id, .int .u32 adv, .int .i64 seq, .slice p5 links.length c5, .int .u32 mask, .slice p7 routers.length c7, .int .i64 cost])
        have hKx : Hid (Keeps (fun _ => False) wr Wx) := Lib.hid (by rw [hWx]; exact (Keeps.refl _ _).alloc _)
        have hWx' := Lib.hid hWx
        clear hWx
        go_upto_region 11 with (first | ((with_reducible refine at_slot 90 ?_); refine wpList_load_mid rfl 48 (.tmp 89) rfl g (o + i * 12 + 1) rfl [.int .i64 age, .int .i64 type, .int .u32 id, .int .u32 adv, .int .i64 seq, .slice p5 links.length c5, .int .u32 mask, .slice p7 routers.length c7, .int .i64 cost] _ hlr.out Try.underlying48 rfl lsaInfoR ?_) | ((with_reducible refine at_store 10 ?_); refine wpList_store_new rfl 48 (.tmp 10) (.tmp 90) rfl _ _ rfl rfl lsaInfoR rfl (lsa_one _ _ _ _ _ _ _ _ _ (slice_one _ _ _) (slice_one _ _ _)) ?_))
        rw [← hWx'.out]
        clear hWx'
        obtain ⟨bX, hbX⟩ : ∃ z, wr.heap.size = z := ⟨_, rfl⟩
        have hbX' := Lib.hid hbX
        rw [hbX] at hX0 hgw ⊢
        clear hbX
        have hraX := Lib.hid (hKx.out.rangeAt hra.out (fun f => f))
        have hBx := Lib.hid (hB1.out.keep hKx.out)
        have hIx := Lib.hid (hIa.out.keepC hKx.out (fun _ _ _ _ _ f => f))
        have cW := hraX.out 10 (.int .i64 wth) rfl
        obtain ⟨zc, hzc⟩ : ∃ zc : Bool, zc = (decide (0 < ms.length) && decide (wth ≠ 0)) := ⟨_, rfl⟩
        have hzc' := Lib.hid hzc
        clear hzc
        try simp only [Act.put, sA, sZ, sS]
        go_cut [101] (fun tv wx => tv = .bool zc ∧ wx = Wx)
        case first =>
          as_aux_lemma =>
          by_cases h0 : 0 < ms.length
          · have g0 : (ms.length : Int) > 0 := by omega
            by_cases hw0 : wth = 0
            · have g1 : (wth != 0) = false := by simp [hw0]
              have hz2 : zc = false := by rw [hzc'.out]; simp [hw0]
              have hz2' := Lib.hid hz2
              clear hz2 h0 hw0
              go_wp2_with fail
              go_meet
              case rel => exact ⟨by rw [hz2'.out], rfl⟩
            · have g1 : (wth != 0) = true := by simp [hw0]
              have hz2 : zc = true := by rw [hzc'.out]; simp [hw0, h0]
              have hz2' := Lib.hid hz2
              clear hz2 h0 hw0
              go_wp2_with fail
              go_meet
              case rel => exact ⟨by rw [hz2'.out], rfl⟩
          · have g0 : ¬ (ms.length : Int) > 0 := by omega
            have hz2 : zc = false := by rw [hzc'.out]; simp [h0]
            have hz2' := Lib.hid hz2
            clear hz2 h0
            go_wp2_with fail
            go_meet
            case rel => exact ⟨by rw [hz2'.out], rfl⟩
        case rest =>
          as_aux_lemma =>
          obtain ⟨rfl, hw⟩ := hcut
          have hw2 : Wx = wc := hw.symm
          subst hw2
          clear cW hw
          go_upto_if 101 with fail
          go_cut [10] (fun xv wx => xv = .pointer (some ⟨bX, 0, none⟩) ∧ ∃ xm : LsaM, Hid (BlkAt wx bX 48 (lsaRow xm)) ∧ Hid (LsaIn wx xm) ∧ Hid (XOk xm) ∧ Hid (Keeps (fun k => k = bX) Wx wx))
          case first =>
            --A
            as_aux_lemma =>
              cases zc with
              | false =>
                go_wp2_with fail
                go_meet
                case rel => exact ⟨rfl, ⟨⟨age, type, id, adv, seq, links, mask, routers, cost⟩, p5, c5, p7, c7⟩, hX0, hIx, hxa, Lib.hid (Keeps.refl _ _)⟩
              | true =>
                have hms0 : 0 < ms.length := by have h := hzc'.out; by_cases h0 : 0 < ms.length; exact h0; simp [h0] at h
                obtain ⟨U, hU⟩ := u64_natB n
                have hlw : IntKind.u64.wrap (ms.length : Int) = (ms.length : Int) := by rw [u64_wrap]; omega
                obtain ⟨kx, hkx, hkx1⟩ : ∃ kx : Nat, (U : Int) % (ms.length : Int) = kx ∧ kx < ms.length := ⟨U % ms.length, rfl, Nat.mod_lt _ hms0⟩
                have hkw : IntKind.i64.wrap (kx : Int) = (kx : Int) := IntWalk.i64_in _ (by omega)
                have cn := hraX.out 11 (.int .i64 n) rfl
                have cW := hraX.out 10 (.int .i64 wth) rfl
                have cT := hraX.out 2 (.int .i64 type) rfl
                obtain ⟨mo, hmo⟩ : ∃ mo, ms[kx]? = some mo := ⟨_, List.getElem?_eq_getElem hkx1⟩
                obtain ⟨gl, ol, rfl, hrl⟩ := RowsAt.open hBx.out.row hms0
                have hor : Hid (Wx.rangeAt gl (ol + kx * 9) (lsaRow mo)) := Lib.hid (hrl kx mo hmo)
                have hIo := Lib.hid (hBx.out.ls mo (List.mem_of_getElem? hmo))
                have hgo := Lib.hid (hBx.out.fine.good mo.d (List.mem_map.2 ⟨mo, List.mem_of_getElem? hmo, rfl⟩))
                have k1 : (0 : Int) ≤ (kx : Int) := by omega
                have k2 : (kx : Int) < (ms.length : Int) := by omega
                have k3 : ((ms.length : Int) == 0) = false := by rw [beq_eq_false_iff_ne]; omega
                have ht3 := tmod3 wth
                obtain ⟨⟨age2, type2, id2, adv2, seq2, links2, mask2, routers2, cost2⟩, q5, d5, q7, d7⟩ := mo
                have hsq : -2147483647 ≤ seq2 ∧ seq2 ≤ 2147483647 := by
                  have h := hgo.out.can
                  unfold canB withinB at h
                  simp at h
                  exact h.2.1
                obtain ⟨tm, htm⟩ : ∃ tm, wth.tmod 3 = tm := ⟨_, rfl⟩
                rw [htm] at ht3
                have hsw : IntKind.i64.wrap (seq2 + tm) = seq2 + tm := IntWalk.i64_in _ (by omega)
                have hxo := Lib.hid (GoodL.x hgo.out)
                have hIob := Lib.hid (lsa_away (hBr.out.ls _ (List.mem_of_getElem? hmo)) hbX'.out)
                have hIxb := Lib.hid (lsa_away hIa.out hbX'.out)
                clear hrl hmo
                have kB := (Keeps.refl (fun _ => False) Wx).alloc (.cells #[.int .i64 age2, .int .i64 type2, .int .u32 id2, .int .u32 adv2, .int .i64 seq2, .slice q5 links2.length d5, .int .u32 mask2, .slice q7 routers2.length d7, .int .i64 cost2] 48)
                have hO1 : Hid (BlkAt (Wx.alloc (.cells #[.int .i64 age2, .int .i64 type2, .int .u32 id2, .int .u32 adv2, .int .i64 seq2, .slice q5 links2.length d5, .int .u32 mask2, .slice q7 routers2.length d7, .int .i64 cost2] 48)) Wx.heap.size 48 [.int .i64 age2, .int .i64 type2, .int .u32 id2, .int .u32 adv2, .int .i64 seq2, .slice q5 links2.length d5, .int .u32 mask2, .slice q7 routers2.length d7, .int .i64 cost2]) := Lib.hid (BlkAt.new Wx 48 [.int .i64 age2, .int .i64 type2, .int .u32 id2, .int .u32 adv2, .int .i64 seq2, .slice q5 links2.length d5, .int .u32 mask2, .slice q7 routers2.length d7, .int .i64 cost2])
                have hX1 := Lib.hid (hX0.out.keep kB (fun f => f))
                have hra1 := Lib.hid (kB.rangeAt hraX.out (fun f => f))
                have hIo1 := Lib.hid (hIo.out.keepC kB (fun _ _ _ _ _ f => f))
                have hIx1 := Lib.hid (hIx.out.keepC kB (fun _ _ _ _ _ f => f))
                have hK1 := Lib.hid kB
                have hlt : Hid (bX < Wx.heap.size) := Lib.hid (lt_of_block hX0.out)
                clear kB
                go_upto_region 13 with (first | ((with_reducible refine at_slot 115 ?_); refine wpList_load_mid rfl 48 (.tmp 114) rfl gl (ol + kx * 9) rfl [.int .i64 age2, .int .i64 type2, .int .u32 id2, .int .u32 adv2, .int .i64 seq2, .slice q5 links2.length d5, .int .u32 mask2, .slice q7 routers2.length d7, .int .i64 cost2] _ hor.out Try.underlying48 rfl lsaInfoR ?_) | ((with_reducible refine at_store 11 ?_); refine wpList_store_new rfl 48 (.tmp 11) (.tmp 115) rfl _ _ rfl rfl lsaInfoR rfl (lsa_one _ _ _ _ _ _ _ _ _ (slice_one _ _ _) (slice_one _ _ _)) ?_))
                clear cn cW cT
                obtain ⟨bo, hbo⟩ : ∃ z, Wx.heap.size = z := ⟨_, rfl⟩
                rw [hbo] at hO1 hlt ⊢
                generalize hgz : Wx.alloc (.cells #[.int .i64 age2, .int .i64 type2, .int .u32 id2, .int .u32 adv2, .int .i64 seq2, .slice q5 links2.length d5, .int .u32 mask2, .slice q7 routers2.length d7, .int .i64 cost2] 48) = W5 at hO1 hX1 hra1 hIo1 hIx1 hK1 ⊢
                have hbo' := Lib.hid hbo
                clear hgz hor hIo hraX hbo
                have d4 := hO1.out.cell 4 (.int .i64 seq2) rfl
                have dW := hra1.out 10 (.int .i64 wth) rfl
                refine wp_region_noPanic ?_
                refine wp_region_held_drew (S := (fun W => Keeps (fun _ => False) W5 W)) (by kernel_rfl) (((Keeps.refl (fun _ => False) _).drew)) (fun hHeld => ?_)
                refine tk 0 rfl ?_
                refine tkL 1 rfl (yieldsIf_load_cell (by rfl) 3 (.tmp 116) rfl bo 4 rfl (.int .i64 seq2) (fun _ s => s.cell (p := ⟨bo, 4, none⟩) (World.block_lt_of_cell? _ _ d4) (fun f => f) |>.trans d4) (fun w s => load_int w _ _ _ s)) ?_
                refine tk 2 rfl ?_
                refine tk 3 rfl ?_
                refine tk 4 rfl ?_
                refine tk 5 rfl ?_
                refine tkL 6 rfl (yieldsIf_load_cell (by rfl) 3 (.tmp 121) rfl g (o + i * 12 + 10) rfl (.int .i64 wth) (fun _ s => s.cell (p := ⟨g, o + i * 12 + 10, none⟩) (World.block_lt_of_cell? _ _ dW) (fun f => f) |>.trans dW) (fun w s => load_int w _ _ _ s)) ?_
                refine tk 7 rfl ?_
                refine tk 8 rfl ?_
                refine tk 9 rfl ?_
                refine wpAnyH_done (by kernel_rfl) (NoPanic.normal ?_) _
                have hO6 := Lib.hid (hO1.out.keep hHeld (fun f => f))
                have hX6 := Lib.hid (hX1.out.keep hHeld (fun f => f))
                have hra6 := Lib.hid (hHeld.rangeAt hra1.out (fun f => f))
                have hIo6 := Lib.hid (hIo1.out.keepC hHeld (fun _ _ _ _ _ f => f))
                have hIx6 := Lib.hid (hIx1.out.keepC hHeld (fun _ _ _ _ _ f => f))
                have hK6 := Lib.hid (hK1.out.trans hHeld)
                generalize hgz : W5.drew = W6 at hO6 hX6 hra6 hIo6 hIx6 hK6 ⊢
                clear hsw
                generalize seq2 + tm = S
                clear hgz hHeld hO1 hX1 hra1 hIo1 hIx1 hK1 d4 dW
                have hkr : Hid (W6.rangeAt bo 1 [.int .i64 type2, .int .u32 id2, .int .u32 adv2]) := Lib.hid (row_key (x := ⟨⟨age2, type2, id2, adv2, seq2, links2, mask2, routers2, cost2⟩, q5, d5, q7, d7⟩) (g := bo) (o := 0) hO6.out.range)
                have hXt := Lib.hid (hX6.out.there 1 3 (show 1 + 3 ≤ 9 from by decide))
                obtain ⟨W7, hW7⟩ : ∃ W7, W7 = W6.setCells bX 1 [.int .i64 type2, .int .u32 id2, .int .u32 adv2] := ⟨_, rfl⟩
                have hX7 : Hid (BlkAt W7 bX 48 [.int .i64 age, .int .i64 type2, .int .u32 id2, .int .u32 adv2, .int .i64 seq, .slice p5 links.length c5, .int .u32 mask, .slice p7 routers.length c7, .int .i64 cost]) := Lib.hid (by rw [hW7]; exact ((hX6.out.set 1 _).set 2 _).set 3 _)
                have hs7 : Hid (Keeps (fun k => k = bX) W6 W7) := Lib.hid (by rw [hW7]; exact Keeps.setCells (F := fun k => k = bX) (.inl rfl) _ _ _ (Keeps.refl _ _))
                have hW7' := Lib.hid hW7
                clear hW7
                go_upto_region 15 with (first | ((with_reducible refine at_slot 126 ?_); refine wpList_load_mid rfl 45 (.tmp 125) rfl bo 1 rfl [.int .i64 type2, .int .u32 id2, .int .u32 adv2] _ hkr.out Try.underlying45 rfl r10KeyInfo ?_) | ((with_reducible refine at_store 127 ?_); refine wpList_store_mid rfl 45 (.tmp 127) (.tmp 126) rfl bX 1 #[.int .i64 type2, .int .u32 id2, .int .u32 adv2] rfl rfl hXt.out r10KeyInfo (key_oneK _ _ _) ?_))
                rw [show (W6.setCells bX 1 #[.int .i64 type2, .int .u32 id2, .int .u32 adv2].toList) = W7 from hW7'.out.symm]
                try simp only [Act.put, sA, sZ, sS]
                have hne : Hid (¬ bo = bX) := Lib.hid (by have := hlt.out; omega)
                have hO7 := Lib.hid (hO6.out.keep hs7.out hne.out)
                have hra7 := Lib.hid (hs7.out.rangeAt hra6.out (by have := hgw.out; omega))
                have hfin : Hid (∀ W, Keeps (fun k => k = bX) W6 W → Keeps (fun k => k = bX) Wx W ∧ LsaIn W ⟨⟨age2, type2, id2, adv2, seq2, links2, mask2, routers2, cost2⟩, q5, d5, q7, d7⟩ ∧ LsaIn W ⟨⟨age, type, id, adv, seq, links, mask, routers, cost⟩, p5, c5, p7, c7⟩) := Lib.hid (fun W k => ⟨(hK6.out.mono (fun _ f => f.elim)).trans k, ⟨(hIo6.out.1.keepF k (fun h0 i e f => hIob.out.1 h0 i e f)), (hIo6.out.2.keepF k (fun h0 i e f => hIob.out.2 h0 i e f))⟩, ⟨(hIx6.out.1.keepF k (fun h0 i e f => hIxb.out.1 h0 i e f)), (hIx6.out.2.keepF k (fun h0 i e f => hIxb.out.2 h0 i e f))⟩⟩)
                clear hIo6 hIx6 hra6 hkr hXt hX6 hO6 hW7'
                obtain ⟨zt, hzt⟩ : ∃ zt, (type2 != type) = zt := ⟨_, rfl⟩
                have hzt' := Lib.hid hzt
                have d1 := hX7.out.cell 1 (.int .i64 type2) rfl
                have dT := hra7.out 2 (.int .i64 type) rfl
                refine wp_region_noPanic ?_
                refine wp_region_held_drew (S := (fun W => Keeps (fun _ => False) W7 W)) (by kernel_rfl) (((Keeps.refl (fun _ => False) _).drew)) (fun hHeld => ?_)
                refine tk 0 rfl ?_
                refine tk 1 rfl ?_
                refine tkL 2 rfl (yieldsIf_load_cell (by rfl) 3 (.tmp 129) rfl bX 1 rfl (.int .i64 type2) (fun _ s => s.cell (p := ⟨bX, 1, none⟩) (World.block_lt_of_cell? _ _ d1) (fun f => f) |>.trans d1) (fun w s => load_int w _ _ _ s)) ?_
                refine tk 3 rfl ?_
                refine tk 4 rfl ?_
                refine tk 5 rfl ?_
                refine tk 6 rfl ?_
                refine tk 7 rfl ?_
                refine tk 8 rfl ?_
                refine tkL 9 rfl (yieldsIf_load_cell (by rfl) 3 (.tmp 136) rfl g (o + i * 12 + 1 + 1) rfl (.int .i64 type) (fun _ s => s.cell (p := ⟨g, o + i * 12 + 2, none⟩) (World.block_lt_of_cell? _ _ dT) (fun f => f) |>.trans dT) (fun w s => load_int w _ _ _ s)) ?_
                refine tk 10 rfl ?_
                refine wpAnyH_done (by kernel_rfl) (NoPanic.normal ?_) _
                have hX8 := Lib.hid (hX7.out.keep hHeld (fun f => f))
                have hO8 := Lib.hid (hO7.out.keep hHeld (fun f => f))
                have hs8 := Lib.hid (hs7.out.trans (hHeld.mono (fun _ f => f.elim)))
                generalize hgz : W7.drew = W8 at hX8 hO8 hs8 ⊢
                clear hgz hHeld hX7 hO7 hs7 d1 dT hra7 hzt
                cases zt with
                | true =>
                  have hX9 : Hid (BlkAt (W8.setCells bX 0 [.int .i64 age2, .int .i64 type2, .int .u32 id2, .int .u32 adv2, .int .i64 seq2, .slice q5 links2.length d5, .int .u32 mask2, .slice q7 routers2.length d7, .int .i64 cost2]) bX 48 [.int .i64 age2, .int .i64 type2, .int .u32 id2, .int .u32 adv2, .int .i64 seq2, .slice q5 links2.length d5, .int .u32 mask2, .slice q7 routers2.length d7, .int .i64 cost2]) := Lib.hid (blk_all hX8.out rfl)
                  have hth := Lib.hid (hX8.out.there 0 9 (Nat.le_refl 9))
                  have hs9 : Hid (Keeps (fun k => k = bX) W6 (W8.setCells bX 0 [.int .i64 age2, .int .i64 type2, .int .u32 id2, .int .u32 adv2, .int .i64 seq2, .slice q5 links2.length d5, .int .u32 mask2, .slice q7 routers2.length d7, .int .i64 cost2])) := Lib.hid (hs8.out.trans (Keeps.setCells (F := fun k => k = bX) (.inl rfl) _ _ _ (Keeps.refl _ _)))
                  have hone := Lib.hid (lsaRow_oneK ⟨⟨age2, type2, id2, adv2, seq2, links2, mask2, routers2, cost2⟩, q5, d5, q7, d7⟩)
                  obtain ⟨W9, hW9⟩ : ∃ W9, W9 = W8.setCells bX 0 [.int .i64 age2, .int .i64 type2, .int .u32 id2, .int .u32 adv2, .int .i64 seq2, .slice q5 links2.length d5, .int .u32 mask2, .slice q7 routers2.length d7, .int .i64 cost2] := ⟨_, rfl⟩
                  rw [← hW9] at hX9 hs9
                  have hW9' := Lib.hid hW9
                  clear hW9
                  go_upto_region 17 with (first | ((with_reducible refine at_slot 139 ?_); refine wpList_load_mid rfl 48 (.tmp 11) rfl bo 0 rfl [.int .i64 age2, .int .i64 type2, .int .u32 id2, .int .u32 adv2, .int .i64 seq2, .slice q5 links2.length d5, .int .u32 mask2, .slice q7 routers2.length d7, .int .i64 cost2] _ hO8.out.range Try.underlying48 rfl lsaInfoR ?_) | ((with_reducible refine at_store 10 ?_); refine wpList_store_mid rfl 48 (.tmp 10) (.tmp 139) rfl bX 0 #[.int .i64 age2, .int .i64 type2, .int .u32 id2, .int .u32 adv2, .int .i64 seq2, .slice q5 links2.length d5, .int .u32 mask2, .slice q7 routers2.length d7, .int .i64 cost2] rfl rfl hth.out lsaInfoR hone.out ?_))
                  rw [show (W8.setCells bX 0 #[.int .i64 age2, .int .i64 type2, .int .u32 id2, .int .u32 adv2, .int .i64 seq2, .slice q5 links2.length d5, .int .u32 mask2, .slice q7 routers2.length d7, .int .i64 cost2].toList) = W9 from hW9'.out.symm]
                  try simp only [Act.put, sA, sZ, sS]
                  have d4 := hX9.out.cell 4 _ rfl
                  have f4 := hX9.out.frozen 4
                  go_wp2_with fail
                  go_meet
                  case rel =>
                    have hk : Keeps (fun k => k = bX) W6 (W9.setCell ⟨bX, 4, none⟩ (.int .i64 S)) := hs9.out.trans (Keeps.setCell (F := fun k => k = bX) (Keeps.refl _ _) (.inl rfl) _)
                    exact ⟨rfl, ⟨⟨age2, type2, id2, adv2, S, links2, mask2, routers2, cost2⟩, q5, d5, q7, d7⟩, Lib.hid (hX9.out.set 4 (.int .i64 S)), Lib.hid ⟨(hfin.out _ hk).2.1.1, (hfin.out _ hk).2.1.2⟩, Lib.hid ⟨⟨hxo.out.fine.links, hxo.out.fine.routers, hxo.out.fine.id, hxo.out.fine.adv, hxo.out.fine.mask⟩, hxo.out.ll, hxo.out.rl, hxo.out.ty⟩, Lib.hid (hfin.out _ hk).1⟩
                | false =>
                  have d4 := hX8.out.cell 4 _ rfl
                  have f4 := hX8.out.frozen 4
                  go_wp2_with fail
                  go_meet
                  case rel =>
                    have hk : Keeps (fun k => k = bX) W6 (W8.setCell ⟨bX, 4, none⟩ (.int .i64 S)) := hs8.out.trans (Keeps.setCell (F := fun k => k = bX) (Keeps.refl _ _) (.inl rfl) _)
                    exact ⟨rfl, ⟨⟨age, type2, id2, adv2, S, links, mask, routers, cost⟩, p5, c5, p7, c7⟩, Lib.hid (hX8.out.set 4 (.int .i64 S)), Lib.hid ⟨(hfin.out _ hk).2.2.1, (hfin.out _ hk).2.2.2⟩, Lib.hid ⟨⟨hxa.out.fine.links, hxa.out.fine.routers, hxo.out.fine.id, hxo.out.fine.adv, hxa.out.fine.mask⟩, hxa.out.ll, hxa.out.rl, hxo.out.ty⟩, Lib.hid (hfin.out _ hk).1⟩
          case rest =>
            as_aux_lemma =>
            obtain ⟨rfl, xm, hXb, hXi, hXo, hXk⟩ := hcut
            have hKw2 : Hid (Keeps (fun _ => False) wr wc) := Lib.hid (hKx.out.trans' hXk.out (fun j e => .inr (by rw [e, ← hbX'.out]; exact Nat.le_refl _)))
            generalize hgz : wc = W2 at hXb hXi hKw2 ⊢
            clear hgz hXk hX0 hraX hBx hIx hzc' hlr hIa hxa hwth hmsl hKx
            have hB2 := Lib.hid (hB1.out.keep hKw2.out)
            have hra2 := Lib.hid (hKw2.out.rangeAt hra.out (fun f => f))
            have hK2 := Lib.hid (hK.out.trans hKw2.out)
            obtain ⟨⟨age2, type2, id2, adv2, seq2, links2, mask2, routers2, cost2⟩, q5, d5, q7, d7⟩ := xm
            have hr2 : Hid (r < W2.heap.size) := Lib.hid hB2.out.db.lt.2
            clear hB1 hBr hKw2 hra hB hr hK hbX'
            generalize Wx = WxOld
            go_wp2_with fail
            refine (ldCopy_g b r N (ms.map (·.d)) (Lib.hid hB2.out.fine) W2 (Lib.hid hB2.out.db)).mono ?_
            rintro e w3 ⟨⟨bc, rc, Nc, Lc, rfl, hDc, hFc, hNc, hbc, hrc⟩, k3⟩
            have hB3 := Lib.hid (hB2.out.keep k3)
            have hra3 := Lib.hid (k3.rangeAt hra2.out (fun f => f))
            have hXb3 := Lib.hid (hXb.out.keep k3 (fun f => f))
            have hXi3 := Lib.hid (hXi.out.keepC k3 (fun _ _ _ _ _ f => f))
            have hK3 := Lib.hid (hK2.out.trans k3)
            have hDc3 := Lib.hid hDc
            have hFc3 := Lib.hid hFc
            have hcr : Hid (¬ rc = r) := Lib.hid (by have := hr2.out; omega)
            have hcw : Hid (w.heap.size ≤ rc) := Lib.hid (by have := hK2.out.size; omega)
            clear k3 hB2 hra2 hXb hXi hK2 hDc hFc hbc hrc
            have cw := hra3.out 0 (.int .i64 what) rfl
            simp only [Nat.add_zero] at cw
            obtain ⟨U, hU⟩ := u64_natB what
            obtain ⟨kk, hkk, hkk1⟩ : ∃ kk : Nat, (U : Int) % 8 = kk ∧ kk ≤ 7 := ⟨U % 8, by omega, by omega⟩
            have hkw : IntKind.i64.wrap (kk : Int) = (kk : Int) := IntWalk.i64_in _ (by omega)
            rcases (show kk = 0 ∨ kk = 1 ∨ kk = 2 ∨ kk = 3 ∨ kk = 4 ∨ kk = 5 ∨ (kk = 6 ∨ kk = 7) by omega) with hkv | hkv | hkv | hkv | hkv | hkv | hkv
            · as_aux_lemma => --P0
              have s0 : ((kk : Int) == 0) = true := by rw [hkv]; rfl
              go_upto_region 41 with fail
              clear cw
              obtain ⟨z, q, L', hz⟩ : ∃ z q L', putA (ms.map (·.d)) ⟨age2, type2, id2, adv2, seq2, links2, mask2, routers2, cost2⟩ = (L', z, q) := ⟨_, _, _, rfl⟩
              have hz' := Lib.hid hz
              clear hz
              go_wp2_with ((with_reducible refine at_slot 210 ?_); refine wpList_load_mid rfl 48 (.tmp 10) rfl bX 0 rfl [.int .i64 age2, .int .i64 type2, .int .u32 id2, .int .u32 adv2, .int .i64 seq2, .slice q5 links2.length d5, .int .u32 mask2, .slice q7 routers2.length d7, .int .i64 cost2] _ hXb3.out.range Try.underlying48 rfl lsaInfoR ?_)
              refine (lwTo_any age2 type2 seq2 cost2 id2 adv2 mask2 links2 routers2 q5 q7 d5 d7 w3 (Lib.hid hXi3.out.1) (Lib.hid hXi3.out.2) hXo.out.ll hXo.out.rl).mono ?_
              rintro e w4 ⟨⟨r5, e5, r7, e7, rfl, hl4, hn4⟩, k4⟩
              have hB4 := Lib.hid (hB3.out.keep k4)
              have hXb4 := Lib.hid (hXb3.out.keep k4 (fun f => f))
              have hXi4 := Lib.hid (hXi3.out.keepC k4 (fun _ _ _ _ _ f => f))
              have hK4 := Lib.hid (hK3.out.trans k4)
              have hDc4 := Lib.hid (hDc3.out.keep k4)
              have h1 : Calls Try.prog 9 #[.pointer (some ⟨b, 0, none⟩), .agg (lsaRow ⟨⟨age2, type2, id2, adv2, seq2, links2, mask2, routers2, cost2⟩, r5, e5, r7, e7⟩).toArray] w4 fun e w' => e = .returned (.tuple #[.bool z, .int .i64 q]) ∧ DbL w' b r (N + 1) L' ∧ Keeps (fun k => k = r) w4 w' := by
                have h := ldPut_g b r N (ms.map (·.d)) (Lib.hid hB4.out.fine) ⟨⟨age2, type2, id2, adv2, seq2, links2, mask2, routers2, cost2⟩, r5, e5, r7, e7⟩ (Lib.hid hXo.out.fine) (by have := hXo.out.ll; simp only at this ⊢; omega) (by have := hXo.out.rl; simp only at this ⊢; omega) (by omega) w4 (Lib.hid ⟨hl4, hn4⟩) (Lib.hid hB4.out.db)
                simp only at h
                rw [hz'.out] at h
                exact h
              have h1' := Lib.hid h1
              clear k4 hl4 hn4 hB3 hXb3 hXi3 hK3 hDc3 h1
              go_wp2_with fail
              refine h1'.out.mono ?_
              rintro e w5 ⟨rfl, hD5, k5⟩
              have hnc4 := hB4.out.db.not_cells
              have hv5 := Lib.hid (RowsAt.keepC (cv := lsaRow) (fun m => Nat.zero_lt_succ _) hB4.out.row k5 hnc4)
              have hL5 := Lib.hid (fun m hm => (hB4.out.ls m hm).keepC k5 hnc4)
              have hF5 := Lib.hid hB4.out.fine
              have hXi5 := Lib.hid (hXi4.out.keepC k5 hnc4)
              have hXb5 := Lib.hid (hXb4.out.keep k5 (hnc4 _ _ _ _ hXb4.out))
              have hDc5 := Lib.hid (hDc4.out.keepC k5 hnc4 hcr.out)
              have hK5 := Lib.hid (hK4.out.trans' k5 (fun j e => .inr (by rw [e]; exact hnew.out)))
              have hD5' := Lib.hid hD5
              have h2 : Calls Try.prog 18 #[.slice pl ms.length cl, .agg #[.int .i64 age2, .int .i64 type2, .int .u32 id2, .int .u32 adv2, .int .i64 seq2, .slice q5 links2.length d5, .int .u32 mask2, .slice q7 routers2.length d7, .int .i64 cost2]] w5 fun e w' => (∃ u ns, e = .returned (.tuple #[u, .bool z, .int .i64 q]) ∧ RowsAt 9 lsaRow w' u ns ∧ ns.map (·.d) = L' ∧ ∀ m ∈ ns, m ∈ ms ∨ m = ⟨⟨age2, type2, id2, adv2, seq2, links2, mask2, routers2, cost2⟩, q5, d5, q7, d7⟩) ∧ Keeps (fun _ => False) w5 w' := by
                have h := r12Put_any (.slice pl ms.length cl) ms hF5 ⟨⟨age2, type2, id2, adv2, seq2, links2, mask2, routers2, cost2⟩, q5, d5, q7, d7⟩ (Lib.hid hXo.out.fine) (by have := hXo.out.ll; simp only at this ⊢; omega) (by have := hXo.out.rl; simp only at this ⊢; omega) w5 hv5 hL5 hXi5
                unfold PutPost at h
                simp only at h
                rw [hz'.out] at h
                exact h
              have h2' := Lib.hid h2
              have hF6 : Hid (FineL L') := Lib.hid (by
                have h := hF5.out.putA (x := ⟨age2, type2, id2, adv2, seq2, links2, mask2, routers2, cost2⟩) hXo.out.fine
                rw [hz'.out] at h
                exact h)
              clear k5 hD5 hnc4 hB4 hXi4 hXb4 hDc4 hK4 h1' h2 hv5 hF5
              go_wp2_with ((with_reducible refine at_slot 217 ?_); refine wpList_load_mid rfl 48 (.tmp 10) rfl bX 0 rfl [.int .i64 age2, .int .i64 type2, .int .u32 id2, .int .u32 adv2, .int .i64 seq2, .slice q5 links2.length d5, .int .u32 mask2, .slice q7 routers2.length d7, .int .i64 cost2] _ hXb5.out.range Try.underlying48 rfl lsaInfoR ?_)
              refine h2'.out.mono ?_
              rintro e w6 ⟨⟨u, ns, rfl, hu, hns, hmem⟩, k6⟩
              obtain ⟨pu, cu, rfl⟩ := hu.slice
              have hB6 : Hid (BothD w6 b r (N + 1) (.slice pu ns.length cu) ns) := Lib.hid ⟨by rw [hns]; exact hD5'.out.keep k6, by rw [hns]; exact hF6.out, hu, fun m hm => by
                rcases hmem m hm with h | rfl
                · exact (hL5.out m h).keepC k6 (fun _ _ _ _ _ f => f)
                · exact hXi5.out.keepC k6 (fun _ _ _ _ _ f => f)⟩
              have hK6 := Lib.hid (hK5.out.trans k6)
              have hDc6 := Lib.hid (hDc5.out.keep k6)
              have y1 : (z != z) = false := by simp
              have y2 : (q != q) = false := by simp
              clear k6 hu hns hmem hL5 hXi5 hXb5 hK5 hDc5 hD5' hF6 h2' hXo hz'
              as_aux_lemma =>
                have hiu : IntKind.u32.wrap (i : Int) = (i : Int) := by rw [IntWalk.u32_in _ (by omega)]
                go_wp2_with fail
                refine (ldCount_l bc rc Nc Lc w6 hDc6).mono ?_
                rintro e w7 ⟨rfl, rfl⟩
                by_cases hc20 : Lc.length < 20
                · as_aux_lemma =>
                  have hc20i : (Lc.length : Int) < 20 := by omega
                  clear hc20
                  go_wp2_with fail
                  refine (ldPut_copy bc rc Nc Lc hFc3 i (by omega) (by omega) w6 hDc6).mono ?_
                  rintro e w8 ⟨⟨v8, rfl⟩, k8⟩
                  have hB8 := Lib.hid (hB6.out.keepC k8 (fun j cur t x hc => hDc6.out.not_cells j cur t x hc) (fun e => hcr.out e.symm))
                  have hK8 := Lib.hid (hK6.out.trans' k8 (fun j e => .inr (by have := hcw.out; omega)))
                  clear k8
                  obtain ⟨zb, hzb⟩ : ∃ zb, ((i : Int).tmod 8 == 7) = zb := ⟨_, rfl⟩
                  have hzb2 : (((i : Int) % 8) == 7) = zb := by rw [← hzb]; rfl
                  cases zb with
                  | true =>
                    go_wp2_with fail
                    refine hB8.out.same.mono ?_
                    rintro e w9 ⟨rfl, k9⟩
                    have hB9 := Lib.hid (hB8.out.keep k9)
                    have hK9 := Lib.hid (hK8.out.trans k9)
                    clear k9
                    go_wp2_with fail
                    exact ⟨⟨i + 1, N + 1, ns, pu, cu, by omega, by omega, by go_num, rfl, by omega, hB9, hK9, Lib.hid hB9.out.db.lt.2⟩, by simp [intOf]; omega⟩
                  | false =>
                    go_wp2_with fail
                    exact ⟨⟨i + 1, N + 1, ns, pu, cu, by omega, by omega, by go_num, rfl, by omega, hB8, hK8, Lib.hid hB8.out.db.lt.2⟩, by simp [intOf]; omega⟩
                · as_aux_lemma =>
                  have hc20i : ¬ (Lc.length : Int) < 20 := by omega
                  clear hc20
                  obtain ⟨zb, hzb⟩ : ∃ zb, ((i : Int).tmod 8 == 7) = zb := ⟨_, rfl⟩
                  have hzb2 : (((i : Int) % 8) == 7) = zb := by rw [← hzb]; rfl
                  cases zb with
                  | true =>
                    go_wp2_with fail
                    refine hB6.out.same.mono ?_
                    rintro e w9 ⟨rfl, k9⟩
                    have hB9 := Lib.hid (hB6.out.keep k9)
                    have hK9 := Lib.hid (hK6.out.trans k9)
                    clear k9
                    go_wp2_with fail
                    exact ⟨⟨i + 1, N + 1, ns, pu, cu, by omega, by omega, by go_num, rfl, by omega, hB9, hK9, Lib.hid hB9.out.db.lt.2⟩, by simp [intOf]; omega⟩
                  | false =>
                    go_wp2_with fail
                    exact ⟨⟨i + 1, N + 1, ns, pu, cu, by omega, by omega, by go_num, rfl, by omega, hB6, hK6, Lib.hid hB6.out.db.lt.2⟩, by simp [intOf]; omega⟩
            · as_aux_lemma => --P1
              have s0 : ((kk : Int) == 0) = false := by rw [hkv]; rfl
              have s1 : ((kk : Int) == 1) = true := by rw [hkv]; rfl
              go_upto_region 41 with fail
              clear cw
              obtain ⟨z, q, L', hz⟩ : ∃ z q L', putA (ms.map (·.d)) ⟨age2, type2, id2, adv2, seq2, links2, mask2, routers2, cost2⟩ = (L', z, q) := ⟨_, _, _, rfl⟩
              have hz' := Lib.hid hz
              clear hz
              go_wp2_with ((with_reducible refine at_slot 210 ?_); refine wpList_load_mid rfl 48 (.tmp 10) rfl bX 0 rfl [.int .i64 age2, .int .i64 type2, .int .u32 id2, .int .u32 adv2, .int .i64 seq2, .slice q5 links2.length d5, .int .u32 mask2, .slice q7 routers2.length d7, .int .i64 cost2] _ hXb3.out.range Try.underlying48 rfl lsaInfoR ?_)
              refine (lwTo_any age2 type2 seq2 cost2 id2 adv2 mask2 links2 routers2 q5 q7 d5 d7 w3 (Lib.hid hXi3.out.1) (Lib.hid hXi3.out.2) hXo.out.ll hXo.out.rl).mono ?_
              rintro e w4 ⟨⟨r5, e5, r7, e7, rfl, hl4, hn4⟩, k4⟩
              have hB4 := Lib.hid (hB3.out.keep k4)
              have hXb4 := Lib.hid (hXb3.out.keep k4 (fun f => f))
              have hXi4 := Lib.hid (hXi3.out.keepC k4 (fun _ _ _ _ _ f => f))
              have hK4 := Lib.hid (hK3.out.trans k4)
              have hDc4 := Lib.hid (hDc3.out.keep k4)
              have h1 : Calls Try.prog 9 #[.pointer (some ⟨b, 0, none⟩), .agg (lsaRow ⟨⟨age2, type2, id2, adv2, seq2, links2, mask2, routers2, cost2⟩, r5, e5, r7, e7⟩).toArray] w4 fun e w' => e = .returned (.tuple #[.bool z, .int .i64 q]) ∧ DbL w' b r (N + 1) L' ∧ Keeps (fun k => k = r) w4 w' := by
                have h := ldPut_g b r N (ms.map (·.d)) (Lib.hid hB4.out.fine) ⟨⟨age2, type2, id2, adv2, seq2, links2, mask2, routers2, cost2⟩, r5, e5, r7, e7⟩ (Lib.hid hXo.out.fine) (by have := hXo.out.ll; simp only at this ⊢; omega) (by have := hXo.out.rl; simp only at this ⊢; omega) (by omega) w4 (Lib.hid ⟨hl4, hn4⟩) (Lib.hid hB4.out.db)
                simp only at h
                rw [hz'.out] at h
                exact h
              have h1' := Lib.hid h1
              clear k4 hl4 hn4 hB3 hXb3 hXi3 hK3 hDc3 h1
              go_wp2_with fail
              refine h1'.out.mono ?_
              rintro e w5 ⟨rfl, hD5, k5⟩
              have hnc4 := hB4.out.db.not_cells
              have hv5 := Lib.hid (RowsAt.keepC (cv := lsaRow) (fun m => Nat.zero_lt_succ _) hB4.out.row k5 hnc4)
              have hL5 := Lib.hid (fun m hm => (hB4.out.ls m hm).keepC k5 hnc4)
              have hF5 := Lib.hid hB4.out.fine
              have hXi5 := Lib.hid (hXi4.out.keepC k5 hnc4)
              have hXb5 := Lib.hid (hXb4.out.keep k5 (hnc4 _ _ _ _ hXb4.out))
              have hDc5 := Lib.hid (hDc4.out.keepC k5 hnc4 hcr.out)
              have hK5 := Lib.hid (hK4.out.trans' k5 (fun j e => .inr (by rw [e]; exact hnew.out)))
              have hD5' := Lib.hid hD5
              have h2 : Calls Try.prog 18 #[.slice pl ms.length cl, .agg #[.int .i64 age2, .int .i64 type2, .int .u32 id2, .int .u32 adv2, .int .i64 seq2, .slice q5 links2.length d5, .int .u32 mask2, .slice q7 routers2.length d7, .int .i64 cost2]] w5 fun e w' => (∃ u ns, e = .returned (.tuple #[u, .bool z, .int .i64 q]) ∧ RowsAt 9 lsaRow w' u ns ∧ ns.map (·.d) = L' ∧ ∀ m ∈ ns, m ∈ ms ∨ m = ⟨⟨age2, type2, id2, adv2, seq2, links2, mask2, routers2, cost2⟩, q5, d5, q7, d7⟩) ∧ Keeps (fun _ => False) w5 w' := by
                have h := r12Put_any (.slice pl ms.length cl) ms hF5 ⟨⟨age2, type2, id2, adv2, seq2, links2, mask2, routers2, cost2⟩, q5, d5, q7, d7⟩ (Lib.hid hXo.out.fine) (by have := hXo.out.ll; simp only at this ⊢; omega) (by have := hXo.out.rl; simp only at this ⊢; omega) w5 hv5 hL5 hXi5
                unfold PutPost at h
                simp only at h
                rw [hz'.out] at h
                exact h
              have h2' := Lib.hid h2
              have hF6 : Hid (FineL L') := Lib.hid (by
                have h := hF5.out.putA (x := ⟨age2, type2, id2, adv2, seq2, links2, mask2, routers2, cost2⟩) hXo.out.fine
                rw [hz'.out] at h
                exact h)
              clear k5 hD5 hnc4 hB4 hXi4 hXb4 hDc4 hK4 h1' h2 hv5 hF5
              go_wp2_with ((with_reducible refine at_slot 217 ?_); refine wpList_load_mid rfl 48 (.tmp 10) rfl bX 0 rfl [.int .i64 age2, .int .i64 type2, .int .u32 id2, .int .u32 adv2, .int .i64 seq2, .slice q5 links2.length d5, .int .u32 mask2, .slice q7 routers2.length d7, .int .i64 cost2] _ hXb5.out.range Try.underlying48 rfl lsaInfoR ?_)
              refine h2'.out.mono ?_
              rintro e w6 ⟨⟨u, ns, rfl, hu, hns, hmem⟩, k6⟩
              obtain ⟨pu, cu, rfl⟩ := hu.slice
              have hB6 : Hid (BothD w6 b r (N + 1) (.slice pu ns.length cu) ns) := Lib.hid ⟨by rw [hns]; exact hD5'.out.keep k6, by rw [hns]; exact hF6.out, hu, fun m hm => by
                rcases hmem m hm with h | rfl
                · exact (hL5.out m h).keepC k6 (fun _ _ _ _ _ f => f)
                · exact hXi5.out.keepC k6 (fun _ _ _ _ _ f => f)⟩
              have hK6 := Lib.hid (hK5.out.trans k6)
              have hDc6 := Lib.hid (hDc5.out.keep k6)
              have y1 : (z != z) = false := by simp
              have y2 : (q != q) = false := by simp
              clear k6 hu hns hmem hL5 hXi5 hXb5 hK5 hDc5 hD5' hF6 h2' hXo hz'
              as_aux_lemma =>
                have hiu : IntKind.u32.wrap (i : Int) = (i : Int) := by rw [IntWalk.u32_in _ (by omega)]
                go_wp2_with fail
                refine (ldCount_l bc rc Nc Lc w6 hDc6).mono ?_
                rintro e w7 ⟨rfl, rfl⟩
                by_cases hc20 : Lc.length < 20
                · as_aux_lemma =>
                  have hc20i : (Lc.length : Int) < 20 := by omega
                  clear hc20
                  go_wp2_with fail
                  refine (ldPut_copy bc rc Nc Lc hFc3 i (by omega) (by omega) w6 hDc6).mono ?_
                  rintro e w8 ⟨⟨v8, rfl⟩, k8⟩
                  have hB8 := Lib.hid (hB6.out.keepC k8 (fun j cur t x hc => hDc6.out.not_cells j cur t x hc) (fun e => hcr.out e.symm))
                  have hK8 := Lib.hid (hK6.out.trans' k8 (fun j e => .inr (by have := hcw.out; omega)))
                  clear k8
                  obtain ⟨zb, hzb⟩ : ∃ zb, ((i : Int).tmod 8 == 7) = zb := ⟨_, rfl⟩
                  have hzb2 : (((i : Int) % 8) == 7) = zb := by rw [← hzb]; rfl
                  cases zb with
                  | true =>
                    go_wp2_with fail
                    refine hB8.out.same.mono ?_
                    rintro e w9 ⟨rfl, k9⟩
                    have hB9 := Lib.hid (hB8.out.keep k9)
                    have hK9 := Lib.hid (hK8.out.trans k9)
                    clear k9
                    go_wp2_with fail
                    exact ⟨⟨i + 1, N + 1, ns, pu, cu, by omega, by omega, by go_num, rfl, by omega, hB9, hK9, Lib.hid hB9.out.db.lt.2⟩, by simp [intOf]; omega⟩
                  | false =>
                    go_wp2_with fail
                    exact ⟨⟨i + 1, N + 1, ns, pu, cu, by omega, by omega, by go_num, rfl, by omega, hB8, hK8, Lib.hid hB8.out.db.lt.2⟩, by simp [intOf]; omega⟩
                · as_aux_lemma =>
                  have hc20i : ¬ (Lc.length : Int) < 20 := by omega
                  clear hc20
                  obtain ⟨zb, hzb⟩ : ∃ zb, ((i : Int).tmod 8 == 7) = zb := ⟨_, rfl⟩
                  have hzb2 : (((i : Int) % 8) == 7) = zb := by rw [← hzb]; rfl
                  cases zb with
                  | true =>
                    go_wp2_with fail
                    refine hB6.out.same.mono ?_
                    rintro e w9 ⟨rfl, k9⟩
                    have hB9 := Lib.hid (hB6.out.keep k9)
                    have hK9 := Lib.hid (hK6.out.trans k9)
                    clear k9
                    go_wp2_with fail
                    exact ⟨⟨i + 1, N + 1, ns, pu, cu, by omega, by omega, by go_num, rfl, by omega, hB9, hK9, Lib.hid hB9.out.db.lt.2⟩, by simp [intOf]; omega⟩
                  | false =>
                    go_wp2_with fail
                    exact ⟨⟨i + 1, N + 1, ns, pu, cu, by omega, by omega, by go_num, rfl, by omega, hB6, hK6, Lib.hid hB6.out.db.lt.2⟩, by simp [intOf]; omega⟩
            · as_aux_lemma => --P2
              have s0 : ((kk : Int) == 0) = false := by rw [hkv]; rfl
              have s1 : ((kk : Int) == 1) = false := by rw [hkv]; rfl
              have s2 : ((kk : Int) == 2) = true := by rw [hkv]; rfl
              go_upto_region 41 with fail
              clear cw
              obtain ⟨z, q, L', hz⟩ : ∃ z q L', putA (ms.map (·.d)) ⟨age2, type2, id2, adv2, seq2, links2, mask2, routers2, cost2⟩ = (L', z, q) := ⟨_, _, _, rfl⟩
              have hz' := Lib.hid hz
              clear hz
              go_wp2_with ((with_reducible refine at_slot 210 ?_); refine wpList_load_mid rfl 48 (.tmp 10) rfl bX 0 rfl [.int .i64 age2, .int .i64 type2, .int .u32 id2, .int .u32 adv2, .int .i64 seq2, .slice q5 links2.length d5, .int .u32 mask2, .slice q7 routers2.length d7, .int .i64 cost2] _ hXb3.out.range Try.underlying48 rfl lsaInfoR ?_)
              refine (lwTo_any age2 type2 seq2 cost2 id2 adv2 mask2 links2 routers2 q5 q7 d5 d7 w3 (Lib.hid hXi3.out.1) (Lib.hid hXi3.out.2) hXo.out.ll hXo.out.rl).mono ?_
              rintro e w4 ⟨⟨r5, e5, r7, e7, rfl, hl4, hn4⟩, k4⟩
              have hB4 := Lib.hid (hB3.out.keep k4)
              have hXb4 := Lib.hid (hXb3.out.keep k4 (fun f => f))
              have hXi4 := Lib.hid (hXi3.out.keepC k4 (fun _ _ _ _ _ f => f))
              have hK4 := Lib.hid (hK3.out.trans k4)
              have hDc4 := Lib.hid (hDc3.out.keep k4)
              have h1 : Calls Try.prog 9 #[.pointer (some ⟨b, 0, none⟩), .agg (lsaRow ⟨⟨age2, type2, id2, adv2, seq2, links2, mask2, routers2, cost2⟩, r5, e5, r7, e7⟩).toArray] w4 fun e w' => e = .returned (.tuple #[.bool z, .int .i64 q]) ∧ DbL w' b r (N + 1) L' ∧ Keeps (fun k => k = r) w4 w' := by
                have h := ldPut_g b r N (ms.map (·.d)) (Lib.hid hB4.out.fine) ⟨⟨age2, type2, id2, adv2, seq2, links2, mask2, routers2, cost2⟩, r5, e5, r7, e7⟩ (Lib.hid hXo.out.fine) (by have := hXo.out.ll; simp only at this ⊢; omega) (by have := hXo.out.rl; simp only at this ⊢; omega) (by omega) w4 (Lib.hid ⟨hl4, hn4⟩) (Lib.hid hB4.out.db)
                simp only at h
                rw [hz'.out] at h
                exact h
              have h1' := Lib.hid h1
              clear k4 hl4 hn4 hB3 hXb3 hXi3 hK3 hDc3 h1
              go_wp2_with fail
              refine h1'.out.mono ?_
              rintro e w5 ⟨rfl, hD5, k5⟩
              have hnc4 := hB4.out.db.not_cells
              have hv5 := Lib.hid (RowsAt.keepC (cv := lsaRow) (fun m => Nat.zero_lt_succ _) hB4.out.row k5 hnc4)
              have hL5 := Lib.hid (fun m hm => (hB4.out.ls m hm).keepC k5 hnc4)
              have hF5 := Lib.hid hB4.out.fine
              have hXi5 := Lib.hid (hXi4.out.keepC k5 hnc4)
              have hXb5 := Lib.hid (hXb4.out.keep k5 (hnc4 _ _ _ _ hXb4.out))
              have hDc5 := Lib.hid (hDc4.out.keepC k5 hnc4 hcr.out)
              have hK5 := Lib.hid (hK4.out.trans' k5 (fun j e => .inr (by rw [e]; exact hnew.out)))
              have hD5' := Lib.hid hD5
              have h2 : Calls Try.prog 18 #[.slice pl ms.length cl, .agg #[.int .i64 age2, .int .i64 type2, .int .u32 id2, .int .u32 adv2, .int .i64 seq2, .slice q5 links2.length d5, .int .u32 mask2, .slice q7 routers2.length d7, .int .i64 cost2]] w5 fun e w' => (∃ u ns, e = .returned (.tuple #[u, .bool z, .int .i64 q]) ∧ RowsAt 9 lsaRow w' u ns ∧ ns.map (·.d) = L' ∧ ∀ m ∈ ns, m ∈ ms ∨ m = ⟨⟨age2, type2, id2, adv2, seq2, links2, mask2, routers2, cost2⟩, q5, d5, q7, d7⟩) ∧ Keeps (fun _ => False) w5 w' := by
                have h := r12Put_any (.slice pl ms.length cl) ms hF5 ⟨⟨age2, type2, id2, adv2, seq2, links2, mask2, routers2, cost2⟩, q5, d5, q7, d7⟩ (Lib.hid hXo.out.fine) (by have := hXo.out.ll; simp only at this ⊢; omega) (by have := hXo.out.rl; simp only at this ⊢; omega) w5 hv5 hL5 hXi5
                unfold PutPost at h
                simp only at h
                rw [hz'.out] at h
                exact h
              have h2' := Lib.hid h2
              have hF6 : Hid (FineL L') := Lib.hid (by
                have h := hF5.out.putA (x := ⟨age2, type2, id2, adv2, seq2, links2, mask2, routers2, cost2⟩) hXo.out.fine
                rw [hz'.out] at h
                exact h)
              clear k5 hD5 hnc4 hB4 hXi4 hXb4 hDc4 hK4 h1' h2 hv5 hF5
              go_wp2_with ((with_reducible refine at_slot 217 ?_); refine wpList_load_mid rfl 48 (.tmp 10) rfl bX 0 rfl [.int .i64 age2, .int .i64 type2, .int .u32 id2, .int .u32 adv2, .int .i64 seq2, .slice q5 links2.length d5, .int .u32 mask2, .slice q7 routers2.length d7, .int .i64 cost2] _ hXb5.out.range Try.underlying48 rfl lsaInfoR ?_)
              refine h2'.out.mono ?_
              rintro e w6 ⟨⟨u, ns, rfl, hu, hns, hmem⟩, k6⟩
              obtain ⟨pu, cu, rfl⟩ := hu.slice
              have hB6 : Hid (BothD w6 b r (N + 1) (.slice pu ns.length cu) ns) := Lib.hid ⟨by rw [hns]; exact hD5'.out.keep k6, by rw [hns]; exact hF6.out, hu, fun m hm => by
                rcases hmem m hm with h | rfl
                · exact (hL5.out m h).keepC k6 (fun _ _ _ _ _ f => f)
                · exact hXi5.out.keepC k6 (fun _ _ _ _ _ f => f)⟩
              have hK6 := Lib.hid (hK5.out.trans k6)
              have hDc6 := Lib.hid (hDc5.out.keep k6)
              have y1 : (z != z) = false := by simp
              have y2 : (q != q) = false := by simp
              clear k6 hu hns hmem hL5 hXi5 hXb5 hK5 hDc5 hD5' hF6 h2' hXo hz'
              as_aux_lemma =>
                have hiu : IntKind.u32.wrap (i : Int) = (i : Int) := by rw [IntWalk.u32_in _ (by omega)]
                go_wp2_with fail
                refine (ldCount_l bc rc Nc Lc w6 hDc6).mono ?_
                rintro e w7 ⟨rfl, rfl⟩
                by_cases hc20 : Lc.length < 20
                · as_aux_lemma =>
                  have hc20i : (Lc.length : Int) < 20 := by omega
                  clear hc20
                  go_wp2_with fail
                  refine (ldPut_copy bc rc Nc Lc hFc3 i (by omega) (by omega) w6 hDc6).mono ?_
                  rintro e w8 ⟨⟨v8, rfl⟩, k8⟩
                  have hB8 := Lib.hid (hB6.out.keepC k8 (fun j cur t x hc => hDc6.out.not_cells j cur t x hc) (fun e => hcr.out e.symm))
                  have hK8 := Lib.hid (hK6.out.trans' k8 (fun j e => .inr (by have := hcw.out; omega)))
                  clear k8
                  obtain ⟨zb, hzb⟩ : ∃ zb, ((i : Int).tmod 8 == 7) = zb := ⟨_, rfl⟩
                  have hzb2 : (((i : Int) % 8) == 7) = zb := by rw [← hzb]; rfl
                  cases zb with
                  | true =>
                    go_wp2_with fail
                    refine hB8.out.same.mono ?_
                    rintro e w9 ⟨rfl, k9⟩
                    have hB9 := Lib.hid (hB8.out.keep k9)
                    have hK9 := Lib.hid (hK8.out.trans k9)
                    clear k9
                    go_wp2_with fail
                    exact ⟨⟨i + 1, N + 1, ns, pu, cu, by omega, by omega, by go_num, rfl, by omega, hB9, hK9, Lib.hid hB9.out.db.lt.2⟩, by simp [intOf]; omega⟩
                  | false =>
                    go_wp2_with fail
                    exact ⟨⟨i + 1, N + 1, ns, pu, cu, by omega, by omega, by go_num, rfl, by omega, hB8, hK8, Lib.hid hB8.out.db.lt.2⟩, by simp [intOf]; omega⟩
                · as_aux_lemma =>
                  have hc20i : ¬ (Lc.length : Int) < 20 := by omega
                  clear hc20
                  obtain ⟨zb, hzb⟩ : ∃ zb, ((i : Int).tmod 8 == 7) = zb := ⟨_, rfl⟩
                  have hzb2 : (((i : Int) % 8) == 7) = zb := by rw [← hzb]; rfl
                  cases zb with
                  | true =>
                    go_wp2_with fail
                    refine hB6.out.same.mono ?_
                    rintro e w9 ⟨rfl, k9⟩
                    have hB9 := Lib.hid (hB6.out.keep k9)
                    have hK9 := Lib.hid (hK6.out.trans k9)
                    clear k9
                    go_wp2_with fail
                    exact ⟨⟨i + 1, N + 1, ns, pu, cu, by omega, by omega, by go_num, rfl, by omega, hB9, hK9, Lib.hid hB9.out.db.lt.2⟩, by simp [intOf]; omega⟩
                  | false =>
                    go_wp2_with fail
                    exact ⟨⟨i + 1, N + 1, ns, pu, cu, by omega, by omega, by go_num, rfl, by omega, hB6, hK6, Lib.hid hB6.out.db.lt.2⟩, by simp [intOf]; omega⟩
            · as_aux_lemma => --P3
              have s0 : ((kk : Int) == 0) = false := by rw [hkv]; rfl
              have s1 : ((kk : Int) == 1) = false := by rw [hkv]; rfl
              have s2 : ((kk : Int) == 2) = false := by rw [hkv]; rfl
              have s3 : ((kk : Int) == 3) = true := by rw [hkv]; rfl
              go_upto_region 41 with fail
              clear cw
              obtain ⟨z, q, L', hz⟩ : ∃ z q L', putA (ms.map (·.d)) ⟨age2, type2, id2, adv2, seq2, links2, mask2, routers2, cost2⟩ = (L', z, q) := ⟨_, _, _, rfl⟩
              have hz' := Lib.hid hz
              clear hz
              go_wp2_with ((with_reducible refine at_slot 210 ?_); refine wpList_load_mid rfl 48 (.tmp 10) rfl bX 0 rfl [.int .i64 age2, .int .i64 type2, .int .u32 id2, .int .u32 adv2, .int .i64 seq2, .slice q5 links2.length d5, .int .u32 mask2, .slice q7 routers2.length d7, .int .i64 cost2] _ hXb3.out.range Try.underlying48 rfl lsaInfoR ?_)
              refine (lwTo_any age2 type2 seq2 cost2 id2 adv2 mask2 links2 routers2 q5 q7 d5 d7 w3 (Lib.hid hXi3.out.1) (Lib.hid hXi3.out.2) hXo.out.ll hXo.out.rl).mono ?_
              rintro e w4 ⟨⟨r5, e5, r7, e7, rfl, hl4, hn4⟩, k4⟩
              have hB4 := Lib.hid (hB3.out.keep k4)
              have hXb4 := Lib.hid (hXb3.out.keep k4 (fun f => f))
              have hXi4 := Lib.hid (hXi3.out.keepC k4 (fun _ _ _ _ _ f => f))
              have hK4 := Lib.hid (hK3.out.trans k4)
              have hDc4 := Lib.hid (hDc3.out.keep k4)
              have h1 : Calls Try.prog 9 #[.pointer (some ⟨b, 0, none⟩), .agg (lsaRow ⟨⟨age2, type2, id2, adv2, seq2, links2, mask2, routers2, cost2⟩, r5, e5, r7, e7⟩).toArray] w4 fun e w' => e = .returned (.tuple #[.bool z, .int .i64 q]) ∧ DbL w' b r (N + 1) L' ∧ Keeps (fun k => k = r) w4 w' := by
                have h := ldPut_g b r N (ms.map (·.d)) (Lib.hid hB4.out.fine) ⟨⟨age2, type2, id2, adv2, seq2, links2, mask2, routers2, cost2⟩, r5, e5, r7, e7⟩ (Lib.hid hXo.out.fine) (by have := hXo.out.ll; simp only at this ⊢; omega) (by have := hXo.out.rl; simp only at this ⊢; omega) (by omega) w4 (Lib.hid ⟨hl4, hn4⟩) (Lib.hid hB4.out.db)
                simp only at h
                rw [hz'.out] at h
                exact h
              have h1' := Lib.hid h1
              clear k4 hl4 hn4 hB3 hXb3 hXi3 hK3 hDc3 h1
              go_wp2_with fail
              refine h1'.out.mono ?_
              rintro e w5 ⟨rfl, hD5, k5⟩
              have hnc4 := hB4.out.db.not_cells
              have hv5 := Lib.hid (RowsAt.keepC (cv := lsaRow) (fun m => Nat.zero_lt_succ _) hB4.out.row k5 hnc4)
              have hL5 := Lib.hid (fun m hm => (hB4.out.ls m hm).keepC k5 hnc4)
              have hF5 := Lib.hid hB4.out.fine
              have hXi5 := Lib.hid (hXi4.out.keepC k5 hnc4)
              have hXb5 := Lib.hid (hXb4.out.keep k5 (hnc4 _ _ _ _ hXb4.out))
              have hDc5 := Lib.hid (hDc4.out.keepC k5 hnc4 hcr.out)
              have hK5 := Lib.hid (hK4.out.trans' k5 (fun j e => .inr (by rw [e]; exact hnew.out)))
              have hD5' := Lib.hid hD5
              have h2 : Calls Try.prog 18 #[.slice pl ms.length cl, .agg #[.int .i64 age2, .int .i64 type2, .int .u32 id2, .int .u32 adv2, .int .i64 seq2, .slice q5 links2.length d5, .int .u32 mask2, .slice q7 routers2.length d7, .int .i64 cost2]] w5 fun e w' => (∃ u ns, e = .returned (.tuple #[u, .bool z, .int .i64 q]) ∧ RowsAt 9 lsaRow w' u ns ∧ ns.map (·.d) = L' ∧ ∀ m ∈ ns, m ∈ ms ∨ m = ⟨⟨age2, type2, id2, adv2, seq2, links2, mask2, routers2, cost2⟩, q5, d5, q7, d7⟩) ∧ Keeps (fun _ => False) w5 w' := by
                have h := r12Put_any (.slice pl ms.length cl) ms hF5 ⟨⟨age2, type2, id2, adv2, seq2, links2, mask2, routers2, cost2⟩, q5, d5, q7, d7⟩ (Lib.hid hXo.out.fine) (by have := hXo.out.ll; simp only at this ⊢; omega) (by have := hXo.out.rl; simp only at this ⊢; omega) w5 hv5 hL5 hXi5
                unfold PutPost at h
                simp only at h
                rw [hz'.out] at h
                exact h
              have h2' := Lib.hid h2
              have hF6 : Hid (FineL L') := Lib.hid (by
                have h := hF5.out.putA (x := ⟨age2, type2, id2, adv2, seq2, links2, mask2, routers2, cost2⟩) hXo.out.fine
                rw [hz'.out] at h
                exact h)
              clear k5 hD5 hnc4 hB4 hXi4 hXb4 hDc4 hK4 h1' h2 hv5 hF5
              go_wp2_with ((with_reducible refine at_slot 217 ?_); refine wpList_load_mid rfl 48 (.tmp 10) rfl bX 0 rfl [.int .i64 age2, .int .i64 type2, .int .u32 id2, .int .u32 adv2, .int .i64 seq2, .slice q5 links2.length d5, .int .u32 mask2, .slice q7 routers2.length d7, .int .i64 cost2] _ hXb5.out.range Try.underlying48 rfl lsaInfoR ?_)
              refine h2'.out.mono ?_
              rintro e w6 ⟨⟨u, ns, rfl, hu, hns, hmem⟩, k6⟩
              obtain ⟨pu, cu, rfl⟩ := hu.slice
              have hB6 : Hid (BothD w6 b r (N + 1) (.slice pu ns.length cu) ns) := Lib.hid ⟨by rw [hns]; exact hD5'.out.keep k6, by rw [hns]; exact hF6.out, hu, fun m hm => by
                rcases hmem m hm with h | rfl
                · exact (hL5.out m h).keepC k6 (fun _ _ _ _ _ f => f)
                · exact hXi5.out.keepC k6 (fun _ _ _ _ _ f => f)⟩
              have hK6 := Lib.hid (hK5.out.trans k6)
              have hDc6 := Lib.hid (hDc5.out.keep k6)
              have y1 : (z != z) = false := by simp
              have y2 : (q != q) = false := by simp
              clear k6 hu hns hmem hL5 hXi5 hXb5 hK5 hDc5 hD5' hF6 h2' hXo hz'
              as_aux_lemma =>
                have hiu : IntKind.u32.wrap (i : Int) = (i : Int) := by rw [IntWalk.u32_in _ (by omega)]
                go_wp2_with fail
                refine (ldCount_l bc rc Nc Lc w6 hDc6).mono ?_
                rintro e w7 ⟨rfl, rfl⟩
                by_cases hc20 : Lc.length < 20
                · as_aux_lemma =>
                  have hc20i : (Lc.length : Int) < 20 := by omega
                  clear hc20
                  go_wp2_with fail
                  refine (ldPut_copy bc rc Nc Lc hFc3 i (by omega) (by omega) w6 hDc6).mono ?_
                  rintro e w8 ⟨⟨v8, rfl⟩, k8⟩
                  have hB8 := Lib.hid (hB6.out.keepC k8 (fun j cur t x hc => hDc6.out.not_cells j cur t x hc) (fun e => hcr.out e.symm))
                  have hK8 := Lib.hid (hK6.out.trans' k8 (fun j e => .inr (by have := hcw.out; omega)))
                  clear k8
                  obtain ⟨zb, hzb⟩ : ∃ zb, ((i : Int).tmod 8 == 7) = zb := ⟨_, rfl⟩
                  have hzb2 : (((i : Int) % 8) == 7) = zb := by rw [← hzb]; rfl
                  cases zb with
                  | true =>
                    go_wp2_with fail
                    refine hB8.out.same.mono ?_
                    rintro e w9 ⟨rfl, k9⟩
                    have hB9 := Lib.hid (hB8.out.keep k9)
                    have hK9 := Lib.hid (hK8.out.trans k9)
                    clear k9
                    go_wp2_with fail
                    exact ⟨⟨i + 1, N + 1, ns, pu, cu, by omega, by omega, by go_num, rfl, by omega, hB9, hK9, Lib.hid hB9.out.db.lt.2⟩, by simp [intOf]; omega⟩
                  | false =>
                    go_wp2_with fail
                    exact ⟨⟨i + 1, N + 1, ns, pu, cu, by omega, by omega, by go_num, rfl, by omega, hB8, hK8, Lib.hid hB8.out.db.lt.2⟩, by simp [intOf]; omega⟩
                · as_aux_lemma =>
                  have hc20i : ¬ (Lc.length : Int) < 20 := by omega
                  clear hc20
                  obtain ⟨zb, hzb⟩ : ∃ zb, ((i : Int).tmod 8 == 7) = zb := ⟨_, rfl⟩
                  have hzb2 : (((i : Int) % 8) == 7) = zb := by rw [← hzb]; rfl
                  cases zb with
                  | true =>
                    go_wp2_with fail
                    refine hB6.out.same.mono ?_
                    rintro e w9 ⟨rfl, k9⟩
                    have hB9 := Lib.hid (hB6.out.keep k9)
                    have hK9 := Lib.hid (hK6.out.trans k9)
                    clear k9
                    go_wp2_with fail
                    exact ⟨⟨i + 1, N + 1, ns, pu, cu, by omega, by omega, by go_num, rfl, by omega, hB9, hK9, Lib.hid hB9.out.db.lt.2⟩, by simp [intOf]; omega⟩
                  | false =>
                    go_wp2_with fail
                    exact ⟨⟨i + 1, N + 1, ns, pu, cu, by omega, by omega, by go_num, rfl, by omega, hB6, hK6, Lib.hid hB6.out.db.lt.2⟩, by simp [intOf]; omega⟩
            · as_aux_lemma => --P4
              have s0 : ((kk : Int) == 0) = false := by rw [hkv]; rfl
              have s1 : ((kk : Int) == 1) = false := by rw [hkv]; rfl
              have s2 : ((kk : Int) == 2) = false := by rw [hkv]; rfl
              have s3 : ((kk : Int) == 3) = false := by rw [hkv]; rfl
              have s4 : ((kk : Int) == 4) = true := by rw [hkv]; rfl
              go_upto_region 41 with fail
              clear cw
              obtain ⟨z, q, L', hz⟩ : ∃ z q L', putA (ms.map (·.d)) ⟨age2, type2, id2, adv2, seq2, links2, mask2, routers2, cost2⟩ = (L', z, q) := ⟨_, _, _, rfl⟩
              have hz' := Lib.hid hz
              clear hz
              go_wp2_with ((with_reducible refine at_slot 210 ?_); refine wpList_load_mid rfl 48 (.tmp 10) rfl bX 0 rfl [.int .i64 age2, .int .i64 type2, .int .u32 id2, .int .u32 adv2, .int .i64 seq2, .slice q5 links2.length d5, .int .u32 mask2, .slice q7 routers2.length d7, .int .i64 cost2] _ hXb3.out.range Try.underlying48 rfl lsaInfoR ?_)
              refine (lwTo_any age2 type2 seq2 cost2 id2 adv2 mask2 links2 routers2 q5 q7 d5 d7 w3 (Lib.hid hXi3.out.1) (Lib.hid hXi3.out.2) hXo.out.ll hXo.out.rl).mono ?_
              rintro e w4 ⟨⟨r5, e5, r7, e7, rfl, hl4, hn4⟩, k4⟩
              have hB4 := Lib.hid (hB3.out.keep k4)
              have hXb4 := Lib.hid (hXb3.out.keep k4 (fun f => f))
              have hXi4 := Lib.hid (hXi3.out.keepC k4 (fun _ _ _ _ _ f => f))
              have hK4 := Lib.hid (hK3.out.trans k4)
              have hDc4 := Lib.hid (hDc3.out.keep k4)
              have h1 : Calls Try.prog 9 #[.pointer (some ⟨b, 0, none⟩), .agg (lsaRow ⟨⟨age2, type2, id2, adv2, seq2, links2, mask2, routers2, cost2⟩, r5, e5, r7, e7⟩).toArray] w4 fun e w' => e = .returned (.tuple #[.bool z, .int .i64 q]) ∧ DbL w' b r (N + 1) L' ∧ Keeps (fun k => k = r) w4 w' := by
                have h := ldPut_g b r N (ms.map (·.d)) (Lib.hid hB4.out.fine) ⟨⟨age2, type2, id2, adv2, seq2, links2, mask2, routers2, cost2⟩, r5, e5, r7, e7⟩ (Lib.hid hXo.out.fine) (by have := hXo.out.ll; simp only at this ⊢; omega) (by have := hXo.out.rl; simp only at this ⊢; omega) (by omega) w4 (Lib.hid ⟨hl4, hn4⟩) (Lib.hid hB4.out.db)
                simp only at h
                rw [hz'.out] at h
                exact h
              have h1' := Lib.hid h1
              clear k4 hl4 hn4 hB3 hXb3 hXi3 hK3 hDc3 h1
              go_wp2_with fail
              refine h1'.out.mono ?_
              rintro e w5 ⟨rfl, hD5, k5⟩
              have hnc4 := hB4.out.db.not_cells
              have hv5 := Lib.hid (RowsAt.keepC (cv := lsaRow) (fun m => Nat.zero_lt_succ _) hB4.out.row k5 hnc4)
              have hL5 := Lib.hid (fun m hm => (hB4.out.ls m hm).keepC k5 hnc4)
              have hF5 := Lib.hid hB4.out.fine
              have hXi5 := Lib.hid (hXi4.out.keepC k5 hnc4)
              have hXb5 := Lib.hid (hXb4.out.keep k5 (hnc4 _ _ _ _ hXb4.out))
              have hDc5 := Lib.hid (hDc4.out.keepC k5 hnc4 hcr.out)
              have hK5 := Lib.hid (hK4.out.trans' k5 (fun j e => .inr (by rw [e]; exact hnew.out)))
              have hD5' := Lib.hid hD5
              have h2 : Calls Try.prog 18 #[.slice pl ms.length cl, .agg #[.int .i64 age2, .int .i64 type2, .int .u32 id2, .int .u32 adv2, .int .i64 seq2, .slice q5 links2.length d5, .int .u32 mask2, .slice q7 routers2.length d7, .int .i64 cost2]] w5 fun e w' => (∃ u ns, e = .returned (.tuple #[u, .bool z, .int .i64 q]) ∧ RowsAt 9 lsaRow w' u ns ∧ ns.map (·.d) = L' ∧ ∀ m ∈ ns, m ∈ ms ∨ m = ⟨⟨age2, type2, id2, adv2, seq2, links2, mask2, routers2, cost2⟩, q5, d5, q7, d7⟩) ∧ Keeps (fun _ => False) w5 w' := by
                have h := r12Put_any (.slice pl ms.length cl) ms hF5 ⟨⟨age2, type2, id2, adv2, seq2, links2, mask2, routers2, cost2⟩, q5, d5, q7, d7⟩ (Lib.hid hXo.out.fine) (by have := hXo.out.ll; simp only at this ⊢; omega) (by have := hXo.out.rl; simp only at this ⊢; omega) w5 hv5 hL5 hXi5
                unfold PutPost at h
                simp only at h
                rw [hz'.out] at h
                exact h
              have h2' := Lib.hid h2
              have hF6 : Hid (FineL L') := Lib.hid (by
                have h := hF5.out.putA (x := ⟨age2, type2, id2, adv2, seq2, links2, mask2, routers2, cost2⟩) hXo.out.fine
                rw [hz'.out] at h
                exact h)
              clear k5 hD5 hnc4 hB4 hXi4 hXb4 hDc4 hK4 h1' h2 hv5 hF5
              go_wp2_with ((with_reducible refine at_slot 217 ?_); refine wpList_load_mid rfl 48 (.tmp 10) rfl bX 0 rfl [.int .i64 age2, .int .i64 type2, .int .u32 id2, .int .u32 adv2, .int .i64 seq2, .slice q5 links2.length d5, .int .u32 mask2, .slice q7 routers2.length d7, .int .i64 cost2] _ hXb5.out.range Try.underlying48 rfl lsaInfoR ?_)
              refine h2'.out.mono ?_
              rintro e w6 ⟨⟨u, ns, rfl, hu, hns, hmem⟩, k6⟩
              obtain ⟨pu, cu, rfl⟩ := hu.slice
              have hB6 : Hid (BothD w6 b r (N + 1) (.slice pu ns.length cu) ns) := Lib.hid ⟨by rw [hns]; exact hD5'.out.keep k6, by rw [hns]; exact hF6.out, hu, fun m hm => by
                rcases hmem m hm with h | rfl
                · exact (hL5.out m h).keepC k6 (fun _ _ _ _ _ f => f)
                · exact hXi5.out.keepC k6 (fun _ _ _ _ _ f => f)⟩
              have hK6 := Lib.hid (hK5.out.trans k6)
              have hDc6 := Lib.hid (hDc5.out.keep k6)
              have y1 : (z != z) = false := by simp
              have y2 : (q != q) = false := by simp
              clear k6 hu hns hmem hL5 hXi5 hXb5 hK5 hDc5 hD5' hF6 h2' hXo hz'
              as_aux_lemma =>
                have hiu : IntKind.u32.wrap (i : Int) = (i : Int) := by rw [IntWalk.u32_in _ (by omega)]
                go_wp2_with fail
                refine (ldCount_l bc rc Nc Lc w6 hDc6).mono ?_
                rintro e w7 ⟨rfl, rfl⟩
                by_cases hc20 : Lc.length < 20
                · as_aux_lemma =>
                  have hc20i : (Lc.length : Int) < 20 := by omega
                  clear hc20
                  go_wp2_with fail
                  refine (ldPut_copy bc rc Nc Lc hFc3 i (by omega) (by omega) w6 hDc6).mono ?_
                  rintro e w8 ⟨⟨v8, rfl⟩, k8⟩
                  have hB8 := Lib.hid (hB6.out.keepC k8 (fun j cur t x hc => hDc6.out.not_cells j cur t x hc) (fun e => hcr.out e.symm))
                  have hK8 := Lib.hid (hK6.out.trans' k8 (fun j e => .inr (by have := hcw.out; omega)))
                  clear k8
                  obtain ⟨zb, hzb⟩ : ∃ zb, ((i : Int).tmod 8 == 7) = zb := ⟨_, rfl⟩
                  have hzb2 : (((i : Int) % 8) == 7) = zb := by rw [← hzb]; rfl
                  cases zb with
                  | true =>
                    go_wp2_with fail
                    refine hB8.out.same.mono ?_
                    rintro e w9 ⟨rfl, k9⟩
                    have hB9 := Lib.hid (hB8.out.keep k9)
                    have hK9 := Lib.hid (hK8.out.trans k9)
                    clear k9
                    go_wp2_with fail
                    exact ⟨⟨i + 1, N + 1, ns, pu, cu, by omega, by omega, by go_num, rfl, by omega, hB9, hK9, Lib.hid hB9.out.db.lt.2⟩, by simp [intOf]; omega⟩
                  | false =>
                    go_wp2_with fail
                    exact ⟨⟨i + 1, N + 1, ns, pu, cu, by omega, by omega, by go_num, rfl, by omega, hB8, hK8, Lib.hid hB8.out.db.lt.2⟩, by simp [intOf]; omega⟩
                · as_aux_lemma =>
                  have hc20i : ¬ (Lc.length : Int) < 20 := by omega
                  clear hc20
                  obtain ⟨zb, hzb⟩ : ∃ zb, ((i : Int).tmod 8 == 7) = zb := ⟨_, rfl⟩
                  have hzb2 : (((i : Int) % 8) == 7) = zb := by rw [← hzb]; rfl
                  cases zb with
                  | true =>
                    go_wp2_with fail
                    refine hB6.out.same.mono ?_
                    rintro e w9 ⟨rfl, k9⟩
                    have hB9 := Lib.hid (hB6.out.keep k9)
                    have hK9 := Lib.hid (hK6.out.trans k9)
                    clear k9
                    go_wp2_with fail
                    exact ⟨⟨i + 1, N + 1, ns, pu, cu, by omega, by omega, by go_num, rfl, by omega, hB9, hK9, Lib.hid hB9.out.db.lt.2⟩, by simp [intOf]; omega⟩
                  | false =>
                    go_wp2_with fail
                    exact ⟨⟨i + 1, N + 1, ns, pu, cu, by omega, by omega, by go_num, rfl, by omega, hB6, hK6, Lib.hid hB6.out.db.lt.2⟩, by simp [intOf]; omega⟩
            · as_aux_lemma => --D
              have s0 : ((kk : Int) == 0) = false := by rw [hkv]; rfl
              have s1 : ((kk : Int) == 1) = false := by rw [hkv]; rfl
              have s2 : ((kk : Int) == 2) = false := by rw [hkv]; rfl
              have s3 : ((kk : Int) == 3) = false := by rw [hkv]; rfl
              have s4 : ((kk : Int) == 4) = false := by rw [hkv]; rfl
              have s5 : ((kk : Int) == 5) = true := by rw [hkv]; rfl
              go_upto_region 47 with fail
              clear cw
              obtain ⟨z, hz⟩ : ∃ z, (mapL (ms.map (·.d)) type2 id2 adv2).isSome = z := ⟨_, rfl⟩
              have hz' := Lib.hid hz
              have hds := drop_said hB3.out.fine.up (type2, id2, adv2)
              have hds' : Hid (decide ((dropM (type2, id2, adv2) ms).length < ms.length) = z) := Lib.hid (hds.trans hz)
              clear hz hds
              have hml := hB3.out.len
              have hkx : Hid (w3.rangeAt bX 1 [.int .i64 type2, .int .u32 id2, .int .u32 adv2]) := Lib.hid (row_key (x := ⟨⟨age2, type2, id2, adv2, seq2, links2, mask2, routers2, cost2⟩, q5, d5, q7, d7⟩) (g := bX) (o := 0) hXb3.out.range)
              go_wp2_with ((with_reducible refine at_slot 236 ?_); refine wpList_load_mid rfl 45 (.tmp 235) rfl bX 1 rfl [.int .i64 type2, .int .u32 id2, .int .u32 adv2] _ hkx.out Try.underlying45 rfl r10KeyInfo ?_)
              refine (r12Drop_any (.slice pl ms.length cl) ms (by omega) type2 id2 adv2 w3 (Lib.hid hB3.out.row)).mono ?_
              rintro e w4 ⟨⟨u, rfl, hO4⟩, k4⟩
              rw [hds'.out]
              obtain ⟨pu, cu, rfl⟩ := hO4.slice
              have hv4 := Lib.hid (hO4.at lsaRow_len)
              have hD4 := Lib.hid (hB3.out.db.keep k4)
              have hL4 := Lib.hid (fun m hm => (hB3.out.ls m hm).keepC k4 (fun _ _ _ _ _ f => f))
              have hF4 := Lib.hid hB3.out.fine
              have hK4 := Lib.hid (hK3.out.trans k4)
              have hDc4 := Lib.hid (hDc3.out.keep k4)
              have hkx4 := Lib.hid (k4.rangeAt hkx.out (fun f => f))
              clear hO4 k4 hB3 hK3 hDc3 hkx hXb3 hXi3 hds' hml
              go_wp2_with ((with_reducible refine at_slot 242 ?_); refine wpList_load_mid rfl 45 (.tmp 241) rfl bX 1 rfl [.int .i64 type2, .int .u32 id2, .int .u32 adv2] _ hkx4.out Try.underlying45 rfl r10KeyInfo ?_)
              refine (lwKey_any ⟨type2, id2, adv2⟩ w4).mono ?_
              rintro e w5 ⟨rfl, k5⟩
              have hD5 := Lib.hid (hD4.out.keep k5)
              have hv5 := Lib.hid (hv4.out.keep k5)
              have hL5 := Lib.hid (fun m hm => (hL4.out m hm).keepC k5 (fun _ _ _ _ _ f => f))
              have hK5 := Lib.hid (hK4.out.trans k5)
              have hDc5 := Lib.hid (hDc4.out.keep k5)
              clear k5 hD4 hv4 hL4 hK4 hDc4 hkx4
              go_wp2_with fail
              refine (ldDrop_g b r N (ms.map (·.d)) (Lib.hid hF4.out.up) type2 id2 adv2 hXo.out.k w5 hD5).mono ?_
              rintro e w6 ⟨rfl, hD6, k6⟩
              rw [hz'.out]
              have hnc5 := hD5.out.not_cells
              have hB6 : Hid (BothD w6 b r N (.slice pu (dropM (type2, id2, adv2) ms).length cu) (dropM (type2, id2, adv2) ms)) := Lib.hid ⟨by rw [dropM_map]; exact hD6, by rw [dropM_map]; exact hF4.out.drop _, RowsAt.keepC (cv := lsaRow) (fun m => Nat.zero_lt_succ _) hv5.out k6 hnc5, fun m hm => (hL5.out m (List.mem_filter.1 hm).1).keepC k6 hnc5⟩
              have hK6 := Lib.hid (hK5.out.trans' k6 (fun j e => .inr (by rw [e]; exact hnew.out)))
              have hDc6 := Lib.hid (hDc5.out.keepC k6 hnc5 hcr.out)
              have y1 : (z != z) = false := by simp
              clear k6 hD6 hnc5 hD5 hv5 hL5 hF4 hK5 hDc5 hz' hXo
              as_aux_lemma =>
                have hiu : IntKind.u32.wrap (i : Int) = (i : Int) := by rw [IntWalk.u32_in _ (by omega)]
                go_wp2_with fail
                refine (ldCount_l bc rc Nc Lc w6 hDc6).mono ?_
                rintro e w7 ⟨rfl, rfl⟩
                by_cases hc20 : Lc.length < 20
                · as_aux_lemma =>
                  have hc20i : (Lc.length : Int) < 20 := by omega
                  clear hc20
                  go_wp2_with fail
                  refine (ldPut_copy bc rc Nc Lc hFc3 i (by omega) (by omega) w6 hDc6).mono ?_
                  rintro e w8 ⟨⟨v8, rfl⟩, k8⟩
                  have hB8 := Lib.hid (hB6.out.keepC k8 (fun j cur t x hc => hDc6.out.not_cells j cur t x hc) (fun e => hcr.out e.symm))
                  have hK8 := Lib.hid (hK6.out.trans' k8 (fun j e => .inr (by have := hcw.out; omega)))
                  clear k8
                  obtain ⟨zb, hzb⟩ : ∃ zb, ((i : Int).tmod 8 == 7) = zb := ⟨_, rfl⟩
                  have hzb2 : (((i : Int) % 8) == 7) = zb := by rw [← hzb]; rfl
                  cases zb with
                  | true =>
                    go_wp2_with fail
                    refine hB8.out.same.mono ?_
                    rintro e w9 ⟨rfl, k9⟩
                    have hB9 := Lib.hid (hB8.out.keep k9)
                    have hK9 := Lib.hid (hK8.out.trans k9)
                    clear k9
                    go_wp2_with fail
                    exact ⟨⟨i + 1, N, dropM (type2, id2, adv2) ms, pu, cu, by omega, by omega, by go_num, rfl, by omega, hB9, hK9, Lib.hid hB9.out.db.lt.2⟩, by simp [intOf]; omega⟩
                  | false =>
                    go_wp2_with fail
                    exact ⟨⟨i + 1, N, dropM (type2, id2, adv2) ms, pu, cu, by omega, by omega, by go_num, rfl, by omega, hB8, hK8, Lib.hid hB8.out.db.lt.2⟩, by simp [intOf]; omega⟩
                · as_aux_lemma =>
                  have hc20i : ¬ (Lc.length : Int) < 20 := by omega
                  clear hc20
                  obtain ⟨zb, hzb⟩ : ∃ zb, ((i : Int).tmod 8 == 7) = zb := ⟨_, rfl⟩
                  have hzb2 : (((i : Int) % 8) == 7) = zb := by rw [← hzb]; rfl
                  cases zb with
                  | true =>
                    go_wp2_with fail
                    refine hB6.out.same.mono ?_
                    rintro e w9 ⟨rfl, k9⟩
                    have hB9 := Lib.hid (hB6.out.keep k9)
                    have hK9 := Lib.hid (hK6.out.trans k9)
                    clear k9
                    go_wp2_with fail
                    exact ⟨⟨i + 1, N, dropM (type2, id2, adv2) ms, pu, cu, by omega, by omega, by go_num, rfl, by omega, hB9, hK9, Lib.hid hB9.out.db.lt.2⟩, by simp [intOf]; omega⟩
                  | false =>
                    go_wp2_with fail
                    exact ⟨⟨i + 1, N, dropM (type2, id2, adv2) ms, pu, cu, by omega, by omega, by go_num, rfl, by omega, hB6, hK6, Lib.hid hB6.out.db.lt.2⟩, by simp [intOf]; omega⟩
            · as_aux_lemma => --T
              have s0 : ((kk : Int) == 0) = false := by rw [beq_eq_false_iff_ne]; omega
              have s1 : ((kk : Int) == 1) = false := by rw [beq_eq_false_iff_ne]; omega
              have s2 : ((kk : Int) == 2) = false := by rw [beq_eq_false_iff_ne]; omega
              have s3 : ((kk : Int) == 3) = false := by rw [beq_eq_false_iff_ne]; omega
              have s4 : ((kk : Int) == 4) = false := by rw [beq_eq_false_iff_ne]; omega
              have s5 : ((kk : Int) == 5) = false := by rw [beq_eq_false_iff_ne]; omega
              have cn := hra3.out 11 (.int .i64 n) rfl
              obtain ⟨zq, hzq⟩ : ∃ zq, (what.tmod 8 == 7) = zq := ⟨_, rfl⟩
              obtain ⟨V, hV⟩ := u64_natB n
              obtain ⟨kn, hkn, hkn1⟩ : ∃ kn : Nat, (V : Int) % 40 = kn ∧ kn ≤ 39 := ⟨V % 40, by omega, by omega⟩
              have hkw2 : IntKind.i64.wrap (kn : Int) = (kn : Int) := IntWalk.i64_in _ (by omega)
              have hkw3 : IntKind.i64.wrap (1 + (kn : Int)) = 1 + (kn : Int) := IntWalk.i64_in _ (by omega)
              go_upto_if 158 with fail
              go_cut [21] (fun nv wx => (∃ nt : Nat, nv = .int .i64 nt ∧ nt ≤ 40) ∧ wx = w3)
              case first =>
                cases zq with
                | true =>
                  go_wp2_with fail
                  go_meet
                  case rel => exact ⟨⟨1 + kn, by first | rfl | (congr 1; omega), by omega⟩, rfl⟩
                | false =>
                  go_wp2_with fail
                  go_meet
                  case rel => exact ⟨⟨1, rfl, by omega⟩, rfl⟩
              case rest =>
                obtain ⟨⟨nt, rfl, hnt⟩, hw⟩ := hcut
                have hw2 : w3 = wc := hw.symm
                subst hw2
                clear hw cw cn hra3 hXb3 hXi3 hXo hzq hV hkn hkw2 hkw3
                go_wp2_with fail
                go_loopw [22, 8] (fun kv lv wt => ∃ (k N2 : Nat) (ms2 : List LsaM) (p2 : Option Addr) (c2 : Nat), k ≤ nt ∧ kv = .int .i64 k ∧ lv = .slice p2 ms2.length c2 ∧ N2 ≤ N + 20 * k ∧ Hid (BothD wt b r N2 (.slice p2 ms2.length c2) ms2) ∧ Hid (Keeps (fun _ => False) w wt) ∧ Hid (DbL wt bc rc Nc Lc)) (fun kv _ _ => nt - (intOf kv).toNat)
                case atStart => exact ⟨0, N, ms, pl, cl, by omega, rfl, rfl, by omega, hB3, hK3, hDc3⟩
                case round =>
                  obtain ⟨k, N2, ms2, p2, c2, hk, rfl, rfl, hN2, hBt, hKt, hCt⟩ := hrel
                  by_cases hkn : k < nt
                  · as_aux_lemma =>
                    have hkni : (k : Int) < (nt : Int) := by omega
                    have hml := hBt.out.len
                    clear hkn
                    go_wp2_with fail
                    refine (ldTick_g b r N2 (ms2.map (·.d)) (Lib.hid hBt.out.fine) (by omega) _ (Lib.hid hBt.out.db)).mono ?_
                    rintro e w4 ⟨v4, rfl, hO4, hD4, k4⟩
                    obtain ⟨E, hE⟩ : ∃ E, endK (ms2.map (·.d)) = E := ⟨_, rfl⟩
                    rw [hE] at hO4
                    have hE' := Lib.hid hE
                    clear hE
                    obtain ⟨p4, c4, rfl⟩ := hO4.slice
                    have hv4 := Lib.hid (hO4.at kV_len)
                    have hnc := hBt.out.db.not_cells
                    have hrow4 := Lib.hid (RowsAt.keepC (cv := lsaRow) (fun m => Nat.zero_lt_succ _) hBt.out.row k4 hnc)
                    have hL4 := Lib.hid (fun m hm => (hBt.out.ls m hm).keepC k4 hnc)
                    have hF4 := Lib.hid hBt.out.fine
                    have hC4 := Lib.hid (hCt.out.keepC k4 hnc hcr.out)
                    have hK4 := Lib.hid (hKt.out.trans' k4 (fun j e => .inr (by rw [e]; exact hnew.out)))
                    have hD4' := Lib.hid hD4
                    clear k4 hO4 hD4 hBt hKt hCt hnc
                    go_wp2_with fail
                    refine (r12Tick_any (.slice p2 ms2.length c2) ms2 (by omega) (Lib.hid (fun m hm => (hF4.out.good m.d (List.mem_map.2 ⟨m, hm, rfl⟩)).age)) w4 hrow4).mono ?_
                    rintro e w5 ⟨⟨u, z, rfl, hOu, hOz⟩, k5⟩
                    have hOz : OwnR 45 3 kV w4 w5 z E := by rw [← hE'.out]; exact hOz
                    obtain ⟨pz, cz, rfl⟩ := hOz.slice
                    obtain ⟨pu, cu, rfl⟩ := hOu.slice
                    have hlm : (ms2.map tickM).length = ms2.length := List.length_map ..
                    rw [hlm] at hOu ⊢
                    have hz5 := Lib.hid (hOz.at kV_len)
                    have hv5 := Lib.hid (hv4.out.keep k5)
                    have hB5 : Hid (BothD w5 b r (N2 + ms2.length) (.slice pu ms2.length cu) (ms2.map tickM)) := Lib.hid ⟨by rw [tickM_map]; have h := hD4'.out.keep k5; rw [List.length_map] at h; exact h, by rw [tickM_map]; exact hF4.out.tick, hOu.at lsaRow_len, fun m hm => by
                      obtain ⟨m0, hm0, rfl⟩ := List.mem_map.1 hm
                      exact ⟨by have h := ((hL4.out m0 hm0).keepC k5 (fun _ _ _ _ _ f => f)).1; rw [show (tickM m0).d.links = m0.d.links by unfold tickM tickD; dsimp only; split <;> rfl]; exact h, by have h := ((hL4.out m0 hm0).keepC k5 (fun _ _ _ _ _ f => f)).2; rw [show (tickM m0).d.routers = m0.d.routers by unfold tickM tickD; dsimp only; split <;> rfl]; exact h⟩⟩
                    have hC5 := Lib.hid (hC4.out.keep k5)
                    have hK5 := Lib.hid (hK4.out.trans k5)
                    have y1 : ((E.length : Int) != (E.length : Int)) = false := by simp
                    have hEl : E.length ≤ 20 := by
                      rw [← hE'.out]
                      unfold endK
                      rw [List.length_map]
                      refine Nat.le_trans (List.length_filter_le _ _) ?_
                      rw [List.length_map]; exact hml
                    clear k5 hOu hOz hv4 hrow4 hL4 hF4 hC4 hK4 hD4' hE'
                    go_wp2_with fail
                    go_loopw [26] (fun jv wj => ∃ j : Nat, j ≤ E.length ∧ jv = .int .i64 j ∧ Hid (Keeps (fun _ => False) w5 wj)) (fun jv _ => E.length - (intOf jv).toNat)
                    case atStart => exact ⟨0, by omega, rfl, Lib.hid (Keeps.refl _ _)⟩
                    case round =>
                      obtain ⟨j, hj, rfl, hKj⟩ := hrel
                      by_cases hjl : j < E.length
                      · as_aux_lemma =>
                        obtain ⟨x, hx⟩ : ∃ x, E[j]? = some x := ⟨_, List.getElem?_eq_getElem hjl⟩
                        obtain ⟨g4, o4, rfl, hr4⟩ := RowsAt.open hv5.out (by omega)
                        obtain ⟨gz, oz, rfl, hrz⟩ := RowsAt.open hz5.out (by omega)
                        have hx4 : Hid (wr.rangeAt g4 (o4 + j * 3) [.int .i64 x.1, .int .u32 x.2.1, .int .u32 x.2.2]) := Lib.hid (hKj.out.rangeAt (hr4 j x hx) (fun f => f))
                        have hxz : Hid (wr.rangeAt gz (oz + j * 3) [.int .i64 x.1, .int .u32 x.2.1, .int .u32 x.2.2]) := Lib.hid (hKj.out.rangeAt (hrz j x hx) (fun f => f))
                        have j1 : (0 : Int) ≤ (j : Int) := by omega
                        have j2 : (j : Int) < (E.length : Int) := by omega
                        have hjl' := Lib.hid hjl
                        clear hr4 hrz hx hjl
                        go_upto_region 33 with fail
                        refine wp_region_noPanic ?_
                        refine wp_region_held_drew (S := (fun W => Keeps (fun _ => False) wr W)) (by kernel_rfl) (((Keeps.refl (fun _ => False) _).drew)) (fun hHeld => ?_)
                        refine tk 0 rfl ?_
                        refine tk 1 rfl ?_
                        refine tk 2 rfl ?_
                        refine tkL 3 rfl (yieldsIf_load_mid (by rfl) 25 (.tmp 193) rfl g4 (o4 + j * 3) rfl _ _ (fun _ s => s.rangeAt hx4.out (fun f => f)) Try.underlying25 rfl keyInfo) ?_
                        refine tk 5 rfl ?_
                        refine tk 6 rfl ?_
                        refine tk 7 rfl ?_
                        refine tkL 8 rfl (yieldsIf_load_mid (by rfl) 45 (.tmp 198) rfl gz (oz + j * 3) rfl _ _ (fun _ s => s.rangeAt hxz.out (fun f => f)) Try.underlying45 rfl r10KeyInfo) ?_
                        refine stepL 4 rfl (by kernel_rfl) (fun K hK => ?_)
                        go_simp
                        (refine (lwKeyFrom_any ⟨x.1, x.2.1, x.2.2⟩ _).mono ?_; rintro e w6 ⟨rfl, k6⟩)
                        go_wp2_with fail
                        refine hK.out _ _ ((hHeld.trans k6)) (fun hHeld => ?_)
                        clear hK K
                        try simp only [Act.put, sA, sZ, sS]
                        refine tkL 9 rfl (yieldsIf_neK (by rfl) (.tmp 195) (.tmp 199) _ rfl x x false rfl rfl (by simp)) ?_
                        refine wpAnyH_done (by kernel_rfl) (NoPanic.normal ?_) _
                        have hK6 := Lib.hid (hKj.out.trans hHeld)
                        clear hHeld
                        go_wp2_with fail
                        have hjl2 := hjl'.out
                        exact ⟨⟨j + 1, by omega, by go_num, hK6⟩, by simp [intOf]; omega⟩
                      · have hjli : ¬ (j : Int) < (E.length : Int) := by omega
                        clear hjl
                        have hB6 := Lib.hid (hB5.out.keep hKj.out)
                        have hC6 := Lib.hid (hC5.out.keep hKj.out)
                        have hK6 := Lib.hid (hK5.out.trans hKj.out)
                        go_wp2_with fail
                        exact ⟨⟨k + 1, N2 + ms2.length, ms2.map tickM, pu, cu, by omega, by go_num, by rw [hlm], by omega, by rw [hlm]; exact hB6, hK6, hC6⟩, by simp [intOf]; omega⟩
                  · as_aux_lemma =>
                    have hkni : ¬ (k : Int) < (nt : Int) := by omega
                    obtain rfl : k = nt := by omega
                    clear hkn
                    as_aux_lemma =>
                      have hiu : IntKind.u32.wrap (i : Int) = (i : Int) := by rw [IntWalk.u32_in _ (by omega)]
                      go_wp2_with fail
                      refine (ldCount_l bc rc Nc Lc wr hCt).mono ?_
                      rintro e w7 ⟨rfl, rfl⟩
                      by_cases hc20 : Lc.length < 20
                      · as_aux_lemma =>
                        have hc20i : (Lc.length : Int) < 20 := by omega
                        clear hc20
                        go_wp2_with fail
                        refine (ldPut_copy bc rc Nc Lc hFc3 i (by omega) (by omega) wr hCt).mono ?_
                        rintro e w8 ⟨⟨v8, rfl⟩, k8⟩
                        have hB8 := Lib.hid (hBt.out.keepC k8 (fun j cur t x hc => hCt.out.not_cells j cur t x hc) (fun e => hcr.out e.symm))
                        have hK8 := Lib.hid (hKt.out.trans' k8 (fun j e => .inr (by have := hcw.out; omega)))
                        clear k8
                        obtain ⟨zb, hzb⟩ : ∃ zb, ((i : Int).tmod 8 == 7) = zb := ⟨_, rfl⟩
                        have hzb2 : (((i : Int) % 8) == 7) = zb := by rw [← hzb]; rfl
                        cases zb with
                        | true =>
                          go_wp2_with fail
                          refine hB8.out.same.mono ?_
                          rintro e w9 ⟨rfl, k9⟩
                          have hB9 := Lib.hid (hB8.out.keep k9)
                          have hK9 := Lib.hid (hK8.out.trans k9)
                          clear k9
                          go_wp2_with fail
                          exact ⟨⟨i + 1, N2, ms2, p2, c2, by omega, by omega, by go_num, rfl, by omega, hB9, hK9, Lib.hid hB9.out.db.lt.2⟩, by simp [intOf]; omega⟩
                        | false =>
                          go_wp2_with fail
                          exact ⟨⟨i + 1, N2, ms2, p2, c2, by omega, by omega, by go_num, rfl, by omega, hB8, hK8, Lib.hid hB8.out.db.lt.2⟩, by simp [intOf]; omega⟩
                      · as_aux_lemma =>
                        have hc20i : ¬ (Lc.length : Int) < 20 := by omega
                        clear hc20
                        obtain ⟨zb, hzb⟩ : ∃ zb, ((i : Int).tmod 8 == 7) = zb := ⟨_, rfl⟩
                        have hzb2 : (((i : Int) % 8) == 7) = zb := by rw [← hzb]; rfl
                        cases zb with
                        | true =>
                          go_wp2_with fail
                          refine hBt.out.same.mono ?_
                          rintro e w9 ⟨rfl, k9⟩
                          have hB9 := Lib.hid (hBt.out.keep k9)
                          have hK9 := Lib.hid (hKt.out.trans k9)
                          clear k9
                          go_wp2_with fail
                          exact ⟨⟨i + 1, N2, ms2, p2, c2, by omega, by omega, by go_num, rfl, by omega, hB9, hK9, Lib.hid hB9.out.db.lt.2⟩, by simp [intOf]; omega⟩
                        | false =>
                          go_wp2_with fail
                          exact ⟨⟨i + 1, N2, ms2, p2, c2, by omega, by omega, by go_num, rfl, by omega, hBt, hKt, Lib.hid hBt.out.db.lt.2⟩, by simp [intOf]; omega⟩
      · as_aux_lemma =>
        have h100i : ¬ (i : Int) < 100 := by omega
        have hili : (i : Int) < (rs.length : Int) := by omega
        clear h100 hil
        go_wp2_with fail
        refine hB.out.same.mono ?_
        rintro e wz ⟨rfl, kz⟩
        have hKz := Lib.hid (hK.out.trans kz)
        clear kz
        go_wp2_with fail
        go_ret
        exact ⟨rfl, hKz.out⟩
    · as_aux_lemma =>
      have hili : ¬ (i : Int) < (rs.length : Int) := by omega
      clear hil
      go_wp2_with fail
      refine hB.out.same.mono ?_
      rintro e wz ⟨rfl, kz⟩
      have hKz := Lib.hid (hK.out.trans kz)
      clear kz
      go_wp2_with fail
      go_ret
      exact ⟨rfl, hKz.out⟩
end Go.Proofs.Ytdaongflpllfhaa
