/- LsaGets, walked (gen_lbg.py writes this). -/
import Derived.Test.YtiogeepffdpafaaLBF
import Derived.Deep.DeepCutAuto
import Derived.Laws.BitsAllLaws
namespace Go.Proofs.Ytiogeepffdpafaa
open Go.RowKit

/-- bytes of the call's own -/
def own1 (w0 w : World) (v : Value) (x : List UInt8) : Prop := OwnB w0 w v x ∧ Keeps (fun _ => False) w0 w
theorem own1.next {w0 w w' : World} {v : Value} {x : List UInt8} (h : own1 w0 w v x) (k : Keeps (fun _ => False) w w') : own1 w0 w' v x :=
  ⟨h.1.keep k (fun _ _ f => f), h.2.trans k⟩
theorem u8_xor (a : UInt8) (m : Nat) (hm : m < 256) : ∃ X : UInt8, bits .xor .u8 (a.toNat : Int) (m : Int) = (X.toNat : Int) := by
  refine ⟨UInt8.ofNat (a.toNat ^^^ m), ?_⟩
  have h1 := u8_xor_nat a.toNat m a.toNat_lt hm
  have h2 : a.toNat ^^^ m < 2 ^ 8 := Nat.xor_lt_two_pow a.toNat_lt hm
  rw [h1, UInt8.toNat_ofNat']
  rw [Nat.mod_eq_of_lt h2]
theorem BytesAt.head {w : World} {p : Option Addr} {n c : Nat} {x : List UInt8} (h : BytesAt w (.slice p n c) x) (k : Nat) (hk : k ≤ x.length) : BytesAt w (.slice p k c) (x.take k) := by
  obtain ⟨p', c', e, hp, hc, hr⟩ := h
  injection e with e1 e2 e3
  subst e1; subst e3
  refine ⟨p, c, by rw [List.length_take, Nat.min_eq_left hk], hp, by rw [List.length_take]; omega, fun h0 => ?_⟩
  rw [List.length_take] at h0
  obtain ⟨b, o, rfl, hra⟩ := hr (by omega)
  have := range_part hra 0 k
  exact ⟨b, o, rfl, by simpa using this⟩
theorem BytesAt.cap {w : World} {p : Option Addr} {n c : Nat} {x : List UInt8} (h : BytesAt w (.slice p n c) x) : x.length ≤ c := by
  obtain ⟨p', c', e, hp, hc, hr⟩ := h
  injection e with e1 e2 e3
  subst e3; exact hc
theorem cut100 {w : World} {p : Option Addr} {c : Nat} {l : List UInt8} (h : BytesAt w (.slice p l.length c) l) :
    (100 < l.length ∧ ∃ x : List UInt8, x.length = 100 ∧ BytesAt w (.slice p 100 c) x) ∨ (l.length ≤ 100 ∧ BytesAt w (.slice p l.length c) l) := by
  by_cases h3 : 100 < l.length
  · exact .inl ⟨h3, l.take 100, by rw [List.length_take]; omega, h.head 100 (by omega)⟩
  · exact .inr ⟨by omega, h⟩
set_option maxRecDepth 100000 in
set_option maxHeartbeats 8000000 in
theorem lLsaGets_walk (age type seq cost : Int) (lid adv mask : Nat) (links : List LinkD) (routers : List Nat) (p5 p7 : Option Addr) (c5 c7 : Nat) (d0 d1 : Int) (pr : Option Addr) (cr : Nat) (raw : List UInt8) (w : World)
    (hll : links.length * 24 ≤ 140737488351232) (hrl : routers.length * 4 ≤ 140737488351232) (hL : Hid (LinksAt w (.slice p5 links.length c5) links)) (hR : Hid (NumsAt w (.slice p7 routers.length c7) routers)) (hok : Hid (LsaD.ok ⟨age, type, lid, adv, seq, links, mask, routers, cost⟩))
    (hd0 : -9223372036854775808 ≤ d0) (hd0' : d0 ≤ 9223372036854775807) (hd1 : -9223372036854775808 ≤ d1) (hd1' : d1 ≤ 9223372036854775807) (hB : Hid (BytesAt w (.slice pr raw.length cr) raw)) (hrawl : raw.length ≤ 9223372036854775807) :
    Calls Try.prog 4 #[.agg #[.int .i64 age, .int .i64 type, .int .u32 lid, .int .u32 adv, .int .i64 seq, .slice p5 links.length c5, .int .u32 mask, .slice p7 routers.length c7, .int .i64 cost], .agg #[.int .i64 d0, .int .i64 d1], .slice pr raw.length cr] w (fun e w' => e = .returned (.bool true) ∧ Keeps (fun _ => False) w w') := by
  obtain ⟨i0, hi0, hz0, hz1, hz2⟩ := info_parts u8InfoAll
  obtain ⟨W0, hW0⟩ : ∃ W0, W0 = (w.alloc (.cells #[.int .i64 age, .int .i64 type, .int .u32 lid, .int .u32 adv, .int .i64 seq, .slice p5 links.length c5, .int .u32 mask, .slice p7 routers.length c7, .int .i64 cost] 28)).alloc (.cells #[.int .i64 d0, .int .i64 d1] 56) := ⟨_, rfl⟩
  have kA : Keeps (fun _ => False) (w.alloc (.cells #[.int .i64 age, .int .i64 type, .int .u32 lid, .int .u32 adv, .int .i64 seq, .slice p5 links.length c5, .int .u32 mask, .slice p7 routers.length c7, .int .i64 cost] 28)) W0 := by rw [hW0]; exact (Keeps.refl _ _).alloc _
  have hA : Hid (BlkAt W0 w.heap.size 28 [.int .i64 age, .int .i64 type, .int .u32 lid, .int .u32 adv, .int .i64 seq, .slice p5 links.length c5, .int .u32 mask, .slice p7 routers.length c7, .int .i64 cost]) := Lib.hid ((BlkAt.new w 28 [.int .i64 age, .int .i64 type, .int .u32 lid, .int .u32 adv, .int .i64 seq, .slice p5 links.length c5, .int .u32 mask, .slice p7 routers.length c7, .int .i64 cost]).keep kA (fun f => f))
  have hE : Hid (BlkAt W0 (w.heap.size + 1) 56 [.int .i64 d0, .int .i64 d1]) := Lib.hid (by rw [hW0]; have := BlkAt.new (w.alloc (.cells #[.int .i64 age, .int .i64 type, .int .u32 lid, .int .u32 adv, .int .i64 seq, .slice p5 links.length c5, .int .u32 mask, .slice p7 routers.length c7, .int .i64 cost] 28)) 56 [.int .i64 d0, .int .i64 d1]; simpa using this)
  have hK : Hid (Keeps (fun _ => False) w W0) := Lib.hid (((Keeps.refl _ _).alloc _).trans kA)
  have hL1 := Lib.hid (hL.out.keep hK.out); have hR1 := Lib.hid (hR.out.keep hK.out); have hB1 := Lib.hid (hB.out.keep hK.out)
  obtain ⟨EB, hEB⟩ : ∃ EB, EB = w.heap.size + 1 := ⟨_, rfl⟩
  rw [← hEB] at hE
  have hlow : Hid (w.heap.size ≤ EB) := Lib.hid (by omega)
  have hW0' := Lib.hid hW0; have hEB' := Lib.hid hEB
  clear hW0 hL hR hB kA hEB
  go_enter Try.func4, Try.ntmps4
  go_upto_region 1 with fail
  rw [← hW0'.out, ← hEB'.out]
  clear hW0' hEB'
  go_cut [7, 8] (fun bv' okv wx => (∃ q d x z, bv' = .slice q x.length d ∧ x.length ≤ 504 ∧ okv = .bool z ∧ Hid (OwnB W0 wx (.slice q x.length d) x)) ∧ Hid (Keeps (fun _ => False) W0 wx))
  case first =>
    go_wp2_with ((with_reducible refine at_slot 19 ?_); refine wpList_load_mid rfl 28 (.tmp 3) rfl w.heap.size 0 rfl [.int .i64 age, .int .i64 type, .int .u32 lid, .int .u32 adv, .int .i64 seq, .slice p5 links.length c5, .int .u32 mask, .slice p7 routers.length c7, .int .i64 cost] _ hA.out.range Try.underlying28 rfl lsaInfoR ?_)
    cases hz : canB ⟨age, type, lid, adv, seq, links, mask, routers, cost⟩ with
    | false =>
      have hz' := Lib.hid hz; clear hz
      refine (r10Put_no age type seq cost lid adv mask links routers p5 p7 c5 c7 _ hL1 (by omega) (by omega) hz').mono ?_
      rintro e w2 ⟨rfl, k2⟩
      have k2' := Lib.hid k2; clear k2 hz'
      have hO : Hid (OwnB W0 w2 (.slice none 0 0) []) := Lib.hid (OwnB.nil _ _ k2'.out.size)
      go_wp2_with fail
      go_meet
      case rel => exact ⟨⟨none, 0, [], false, rfl, by simp, rfl, hO⟩, k2'⟩
    | true =>
      have hlX : (putB ⟨age, type, lid, adv, seq, links, mask, routers, cost⟩).length ≤ 504 := by
        have h1 := canB_lens hz
        have h2 := tellB_len (l := ⟨age, type, lid, adv, seq, links, mask, routers, cost⟩) h1.1 h1.2
        rw [putB_len]; omega
      have hz' := Lib.hid hz; clear hz
      refine (r10Put_yes age type seq cost lid adv mask links routers p5 p7 c5 c7 _ hL1 hR1 (Lib.hid hok.out.links) (Lib.hid hok.out.routers) hok.out.id hok.out.adv hok.out.mask hz').mono ?_
      rintro e w2 ⟨pY, cY, rfl, obY, k2⟩
      obtain ⟨PX, hPX⟩ : ∃ PX, putB ⟨age, type, lid, adv, seq, links, mask, routers, cost⟩ = PX := ⟨_, rfl⟩
      rw [hPX] at obY hlX ⊢
      have hO := Lib.hid obY
      have k2' := Lib.hid k2; clear k2 hz' obY hPX
      go_wp2_with fail
      go_meet
      case rel => exact ⟨⟨pY, cY, PX, true, rfl, hlX, rfl, hO⟩, k2'⟩
  case rest =>
    obtain ⟨⟨q, d, x, z, rfl, hx5, rfl, hO⟩, hk⟩ := hcut
    have hcut0 := Lib.hid (cut100 hB1.out)
    have hKw := Lib.hid (hK.out.trans hk.out)
    clear hA hL1 hR1 hok
    go_upto_region 2 with fail
    go_cut [2] (fun rv wx => (∃ r, rv = .slice pr r.length cr ∧ r.length ≤ 100 ∧ Hid (BytesAt W0 (.slice pr r.length cr) r)) ∧ wx = wc)
    case first =>
      rcases hcut0.out with ⟨h3, r, hrl2, hr⟩ | ⟨h3, hr⟩
      · have hcr : (100 : Int) ≤ cr := by have := hB1.out.cap; omega
        have hr' := Lib.hid hr
        have hrl3 := Lib.hid hrl2
        clear hcut0 hr hrl2
        go_wp2_with fail
        go_meet
        case rel => exact ⟨⟨r, by rw [hrl3.out], by rw [hrl3.out]; omega, by rw [hrl3.out]; exact hr'⟩, rfl⟩
      · have hcr : (raw.length : Int) ≤ cr := by have := hB1.out.cap; omega
        have hr' := Lib.hid hr
        clear hcut0 hr
        go_wp2_with fail
        go_meet
        case rel => exact ⟨⟨raw, rfl, h3, hr'⟩, rfl⟩
    case rest =>
      obtain ⟨⟨r, rfl, hr100, hrB⟩, rfl⟩ := hcut
      clear hcut0 hB1
      go_upto_if 29 with fail
      go_cut [7] (fun bv' wx => (∃ q d x, bv' = .slice q x.length d ∧ x.length ≤ 504 ∧ Hid (OwnB W0 wx (.slice q x.length d) x)) ∧ Hid (Keeps (fun _ => False) W0 wx))
      case first =>
        cases z with
        | true =>
          go_wp2_with fail
          go_meet
          case rel => exact ⟨⟨q, d, x, rfl, hx5, hO⟩, hk⟩
        | false =>
          have hrB1 := Lib.hid ((hrB.out.keep hk.out).keep ((Keeps.refl (fun _ => False) wc).alloc (.cells #[] 5)))
          have hOe : Hid (OwnB W0 (wc.alloc (.cells #[] 5)) (.slice (some ⟨wc.heap.size, 0, none⟩) 0 0) []) := Lib.hid (OwnB.empty W0 wc hk.out.size)
          go_wp2_with ((with_reducible refine at_slot 32 ?_); refine wpList_append_b rfl (.tmp 30) (.tmp 31) 29 rfl i0 Try.underlying29 hi0 hz0 hz1 hz2 W0 _ [] rfl hOe.out _ rfl r hrB1.out (by simp; omega) ?_; intro q2 d2 w1 hO1 hG1)
          go_meet
          case rel => exact ⟨⟨q2, d2, r, by simp, by omega, Lib.hid (by simpa using hO1.out)⟩, Lib.hid (hOe.out.keeps (hk.out.alloc _) hG1.out)⟩
      case rest =>
        obtain ⟨⟨q, d, x, rfl, hx5, hO⟩, hk⟩ := hcut
        have hE2 := Lib.hid (hE.out.keep hk.out (fun f => f))
        go_upto_if 35 with fail
        go_cut [7] (fun bv' wx => (∃ q d y, bv' = .slice q y.length d ∧ y.length ≤ 504 ∧ Hid (BytesAt wx (.slice q y.length d) y)) ∧ Hid (Keeps (fun _ => False) W0 wx))
        case first =>
          by_cases h0 : 0 < x.length
          · obtain ⟨U, hU⟩ := u64_nata d0
            obtain ⟨kk, hkk, hkl⟩ : ∃ kk : Nat, (U : Int) % (x.length : Int) = kk ∧ kk < x.length := ⟨U % x.length, by omega, Nat.mod_lt _ h0⟩
            have cE0 := hE2.out.cell 0 (.int .i64 d0) rfl
            have cE1 := hE2.out.cell 1 (.int .i64 d1) rfl
            have hnz : ¬ (x.length : Int) = 0 := by omega
            have hcap : x.length ≤ d := hO.out.bytes.cap
            have hkd : (kk : Int) ≤ d := by omega
            have hkli : (kk : Int) < x.length := by omega
            go_upto_if 47 with fail
            cases htz : (d1.tmod 5 == 4) with
            | true =>
              have hbb : Hid (BytesAt wc (.slice q (x.take kk).length d) (x.take kk)) := Lib.hid (by have := hO.out.bytes.head kk (by omega); rw [List.length_take, Nat.min_eq_left (by omega)]; exact this)
              have htl : Hid ((x.take kk).length = kk) := Lib.hid (by rw [List.length_take]; omega)
              have hE2' := hE2
              go_wp2_with fail
              go_meet
              case rel => exact ⟨⟨q, d, x.take kk, by rw [htl.out], by rw [htl.out]; omega, hbb⟩, hk⟩
            | false =>
              obtain ⟨g, rfl, hg0, hcell, hset⟩ := hO.out.writes h0
              have hc1 := (hcell kk hkl).1
              have hf1 := (hcell kk hkl).2
              obtain ⟨M, hM, lM, -⟩ := u8_nat d1
              obtain ⟨X, hX⟩ := u8_xor (x[kk]'hkl) M lM
              go_upto_region 9 with fail
              go_still_tail 9, (by kernel_rfl)
              change wpList _ _ _ _ _ wc.drew
              have hst := hset kk X
              have hkd2 : Keeps (fun _ => False) W0 ((wc.setCell ⟨g, kk, none⟩ (.int .u8 X.toNat)).drew) := (hk.out.setCell (p := ⟨g, kk, none⟩) (.inr hg0) _).drew
              have hbb : Hid (BytesAt ((wc.setCell ⟨g, kk, none⟩ (.int .u8 X.toNat)).drew) (.slice (some ⟨g, 0, none⟩) (x.set kk X).length d) (x.set kk X)) := Lib.hid (by rw [List.length_set]; exact hst.bytes.keep ((Keeps.refl (fun _ => False) _).drew))
              have hkd2' := Lib.hid hkd2
              clear hst hkd2 hset hcell
              go_wp2_with fail
              go_meet
              case rel => exact ⟨⟨_, d, x.set kk X, by rw [List.length_set], by rw [List.length_set]; omega, hbb⟩, hkd2'⟩
          · have h0' : x.length = 0 := by omega
            have hbb := Lib.hid hO.out.bytes
            go_wp2_with fail
            go_meet
            case rel => exact ⟨⟨q, d, x, rfl, hx5, hbb⟩, hk⟩
        case rest =>
          obtain ⟨⟨q, d, y, rfl, hy5, hyB⟩, hk⟩ := hcut
          have hrW := Lib.hid (hrB.out.keep hk.out)
          have hinit : Hid (BytesAt wc (.slice q y.length d) y ∧ BytesAt wc (.slice pr r.length cr) r ∧ Keeps (fun _ => False) w wc) := Lib.hid ⟨hyB.out, hrW.out, hK.out.trans hk.out⟩
          clear hrW hyB hk hrB hE hKw hO hx5 hK
          go_wp2_with fail
          go_loopw [10] (fun iv wr => ∃ k : Nat, k ≤ 2 ∧ iv = .int .i64 k ∧ Hid (BytesAt wr (.slice q y.length d) y ∧ BytesAt wr (.slice pr r.length cr) r ∧ Keeps (fun _ => False) w wr)) (fun iv _ => 2 - (intOf iv).toNat)
          case atStart => exact ⟨0, by omega, rfl, hinit⟩
          case round =>
            obtain ⟨k, hk2, rfl, hinv⟩ := hrel
            by_cases hkn : k < 2
            · have hkc : k = 0 ∨ k = 1 := by omega
              rcases hkc with rfl | rfl
              · skip
                have hXB := Lib.hid (hinv.out.1)
                have hXl : y.length ≤ 504 := by omega
                obtain ⟨⟨mage, mtype, mid, madv, mseq, mlinks, mmask, mrouters, mcost⟩, e0, hg⟩ : ∃ m e0, getL y = (m, e0) := ⟨_, _, rfl⟩
                have hlm := getL_lens y
                rw [hg] at hlm
                simp only at hlm
                have hg' := Lib.hid hg; clear hg
                go_wp2_with fail
                refine (lsGet_r _ y ⟨mage, mtype, mid, madv, mseq, mlinks, mmask, mrouters, mcost⟩ e0 (by omega) _ hXB hg').mono ?_
                rintro e w1 ⟨⟨a5, b5, a7, b7, rfl, ml, mr⟩, k1⟩
                simp only
                have ml' := Lib.hid ml; have mr' := Lib.hid mr
                obtain ⟨W1, hW1⟩ : ∃ W1, W1 = w1.alloc (.cells #[.int .i64 mage, .int .i64 mtype, .int .u32 mid, .int .u32 madv, .int .i64 mseq, .slice a5 mlinks.length b5, .int .u32 mmask, .slice a7 mrouters.length b7, .int .i64 mcost] 36) := ⟨_, rfl⟩
                have ka : Keeps (fun _ => False) w1 W1 := by rw [hW1]; exact (Keeps.refl _ _).alloc _
                have k1' := Lib.hid (k1.trans ka)
                have hM1 : Hid (BlkAt W1 w1.heap.size 36 [.int .i64 mage, .int .i64 mtype, .int .u32 mid, .int .u32 madv, .int .i64 mseq, .slice a5 mlinks.length b5, .int .u32 mmask, .slice a7 mrouters.length b7, .int .i64 mcost]) := Lib.hid (by rw [hW1]; exact BlkAt.new w1 36 [.int .i64 mage, .int .i64 mtype, .int .u32 mid, .int .u32 madv, .int .i64 mseq, .slice a5 mlinks.length b5, .int .u32 mmask, .slice a7 mrouters.length b7, .int .i64 mcost])
                have ml1 := Lib.hid (ml'.out.keep ka); have mr1 := Lib.hid (mr'.out.keep ka); have hXB1 := Lib.hid (hXB.out.keep k1'.out)
                have hW1' := Lib.hid hW1
                clear ml mr ml' mr' k1 ka hW1
                go_upto_region 17 with ((with_reducible refine at_store 12 ?_); refine wpList_store_new rfl 36 (.tmp 12) (.tmp 71) rfl _ _ rfl rfl lsaInfo rfl (lsa_one _ _ _ _ _ _ _ _ _ (slice_one _ _ _) (slice_one _ _ _)) ?_)
                rw [← hW1'.out]
                clear hW1'
                go_wp2_with fail
                refine (r10Get_r _ y ⟨mage, mtype, mid, madv, mseq, mlinks, mmask, mrouters, mcost⟩ e0 (by omega) _ hXB1 hg').mono ?_
                rintro e w2 ⟨⟨s5, t5, s7, t7, rfl, nl, nr⟩, k2⟩
                simp only
                have nl' := Lib.hid nl; have nr' := Lib.hid nr
                obtain ⟨W2, hW2⟩ : ∃ W2, W2 = w2.alloc (.cells #[.int .i64 mage, .int .i64 mtype, .int .u32 mid, .int .u32 madv, .int .i64 mseq, .slice s5 mlinks.length t5, .int .u32 mmask, .slice s7 mrouters.length t7, .int .i64 mcost] 28) := ⟨_, rfl⟩
                have ka : Keeps (fun _ => False) w2 W2 := by rw [hW2]; exact (Keeps.refl _ _).alloc _
                have k2' := Lib.hid (k2.trans ka)
                have hM2 : Hid (BlkAt W2 w2.heap.size 28 [.int .i64 mage, .int .i64 mtype, .int .u32 mid, .int .u32 madv, .int .i64 mseq, .slice s5 mlinks.length t5, .int .u32 mmask, .slice s7 mrouters.length t7, .int .i64 mcost]) := Lib.hid (by rw [hW2]; exact BlkAt.new w2 28 [.int .i64 mage, .int .i64 mtype, .int .u32 mid, .int .u32 madv, .int .i64 mseq, .slice s5 mlinks.length t5, .int .u32 mmask, .slice s7 mrouters.length t7, .int .i64 mcost])
                have nl2 := Lib.hid (nl'.out.keep ka); have nr2 := Lib.hid (nr'.out.keep ka); have hXB2 := Lib.hid (hXB1.out.keep k2'.out)
                have hM12 := Lib.hid (hM1.out.keep k2'.out (fun f => f)); have ml2 := Lib.hid (ml1.out.keep k2'.out); have mr2 := Lib.hid (mr1.out.keep k2'.out)
                have hk2 := Lib.hid (k1'.out.trans k2'.out)
                have hW2' := Lib.hid hW2
                clear nl nr nl' nr' k2 ka hW2 hM1 ml1 mr1 hXB1 hXB k1' k2'
                go_upto_region 18 with ((with_reducible refine at_store 14 ?_); refine wpList_store_new rfl 28 (.tmp 14) (.tmp 76) rfl _ _ rfl rfl lsaInfoR rfl (lsa_one _ _ _ _ _ _ _ _ _ (slice_one _ _ _) (slice_one _ _ _)) ?_)
                rw [← hW2'.out]
                clear hW2'
                by_cases h20 : y.length < 20
                · skip
                  go_wp2_with fail
                  refine (lsHead_no q y.length d h20 _).mono ?_
                  rintro e w3 ⟨rfl, k3⟩
                  have b1 : decide ((y.length : Int) < 20) = true := decide_eq_true (by omega)
                  have b2 : (!decide ((y.length : Int) < 20)) = false := by rw [b1]; rfl
                  obtain ⟨W3, hW3⟩ : ∃ W3, W3 = w3.alloc (.cells #[.int .i64 0, .int .i64 0, .int .u32 0, .int .u32 0, .int .i64 0, .int .u16 0, .int .i64 0] 45) := ⟨_, rfl⟩
                  have k3' : Keeps (fun _ => False) W2 W3 := by rw [hW3]; exact k3.alloc _
                  have hM13 := Lib.hid (hM12.out.keep k3' (fun f => f)); have hM23 := Lib.hid (hM2.out.keep k3' (fun f => f)); have ml3 := Lib.hid (ml2.out.keep k3'); have mr3 := Lib.hid (mr2.out.keep k3'); have nl3 := Lib.hid (nl2.out.keep k3'); have nr3 := Lib.hid (nr2.out.keep k3')
                  have hk3 := Lib.hid (hk2.out.trans k3')
                  have hW3' := Lib.hid hW3
                  clear k3 k3' hW3 hM12 hM2 ml2 mr2 nl2 nr2 hk2 hXB2
                  go_upto_region 19 with ((with_reducible refine at_store 16 ?_); refine wpList_store_new rfl 45 (.tmp 16) (.tmp 81) rfl _ _ rfl rfl headInfo rfl (head_one _ _ _ _ _ _ _) ?_)
                  rw [← hW3'.out]
                  clear hW3'
                  have hsm : Hid (sameB ⟨mage, mtype, mid, madv, mseq, mlinks, mmask, mrouters, mcost⟩ ⟨mage, mtype, mid, madv, mseq, mlinks, mmask, mrouters, mcost⟩ = true) := Lib.hid (sameB_self _)
                  refine wp_region_noPanic ?_
                  refine wp_region_held_drew (S := (fun W => Keeps (fun _ => False) W3 W)) (by kernel_rfl) (((Keeps.refl (fun _ => False) _).drew)) (fun hHeld => ?_)
                  refine takeL 0 (v := ?_) rfl (by kernel_rfl) (by kernel_rfl) (by kernel_rfl) (fun _ _ _ h => h) (Or.inl ⟨by rfl, ?_⟩) (by assumption) ?_
                  rotate_left
                  · (intro wS hSw; go_simp; try with_reducible rfl)
                  try simp only [Act.put, List.setIfInBounds_toArray, List.set_cons_zero, List.set_cons_succ]
                  refine takeL 1 (v := ?_) rfl (by kernel_rfl) (by kernel_rfl) (by kernel_rfl) (fun _ _ _ h => h) (Or.inl ⟨by rfl, ?_⟩) (by assumption) ?_
                  rotate_left
                  · (intro wS hSw; go_simp; try with_reducible rfl)
                  try simp only [Act.put, List.setIfInBounds_toArray, List.set_cons_zero, List.set_cons_succ]
                  refine takeL 2 (v := ?_) rfl (by kernel_rfl) (by kernel_rfl) (by kernel_rfl) (fun _ _ _ h => h) (Or.inl ⟨by rfl, ?_⟩) (by assumption) ?_
                  rotate_left
                  · (intro wS hSw; go_simp; try with_reducible rfl)
                  try simp only [Act.put, List.setIfInBounds_toArray, List.set_cons_zero, List.set_cons_succ]
                  refine takeL 3 (v := ?_) rfl (by kernel_rfl) (by kernel_rfl) (by kernel_rfl) (fun _ _ _ h => h) (Or.inl ⟨by rfl, ?_⟩) (by assumption) ?_
                  rotate_left
                  · (intro wS hSw; go_simp; try with_reducible rfl)
                  try simp only [Act.put, List.setIfInBounds_toArray, List.set_cons_zero, List.set_cons_succ]
                  refine takeL 4 rfl (by kernel_rfl) (by kernel_rfl) (by kernel_rfl) (fun _ _ _ h => h) (yieldsIf_load_mid (by rfl) 36 (.tmp 12) rfl w1.heap.size 0 rfl [.int .i64 mage, .int .i64 mtype, .int .u32 mid, .int .u32 madv, .int .i64 mseq, .slice a5 mlinks.length b5, .int .u32 mmask, .slice a7 mrouters.length b7, .int .i64 mcost] _ (fun _ s => (hM13.out.keep s (fun f => f)).range) Try.underlying36 rfl lsaInfo) (by assumption) ?_
                  try simp only [Act.put, List.setIfInBounds_toArray, List.set_cons_zero, List.set_cons_succ]
                  refine takeL 6 rfl (by kernel_rfl) (by kernel_rfl) (by kernel_rfl) (fun _ _ _ h => h) (yieldsIf_load_mid (by rfl) 28 (.tmp 14) rfl w2.heap.size 0 rfl [.int .i64 mage, .int .i64 mtype, .int .u32 mid, .int .u32 madv, .int .i64 mseq, .slice s5 mlinks.length t5, .int .u32 mmask, .slice s7 mrouters.length t7, .int .i64 mcost] _ (fun _ s => (hM23.out.keep s (fun f => f)).range) Try.underlying28 rfl lsaInfoR) (by assumption) ?_
                  try simp only [Act.put, List.setIfInBounds_toArray, List.set_cons_zero, List.set_cons_succ]
                  refine stepL 5 rfl (by kernel_rfl) (fun K hK => ?_)
                  go_simp
                  (refine (lwFrom_any mage mtype mseq mcost mid madv mmask mlinks mrouters a5 a7 b5 b7 _ (Lib.hid (ml3.out.keep hHeld)) (Lib.hid (mr3.out.keep hHeld)) (by omega) (by omega)).mono ?_; rintro e wA ⟨⟨x5, y5, x7, y7, rfl, fl1, fr1⟩, kA⟩)
                  go_wp2_with fail
                  refine hK.out _ _ ((hHeld.trans kA)) (fun hHeld => ?_)
                  clear hK K
                  try simp only [Act.put, List.setIfInBounds_toArray, List.set_cons_zero, List.set_cons_succ]
                  refine stepL 7 rfl (by kernel_rfl) (fun K hK => ?_)
                  go_simp
                  (refine (r10Same_any mage mtype mseq mcost mage mtype mseq mcost mid madv mmask mid madv mmask mlinks mlinks mrouters mrouters x5 x7 s5 s7 y5 y7 t5 t7 true _ (by omega) (by omega) (by omega) (by omega) (Lib.hid fl1) (Lib.hid (nl3.out.keep hHeld)) (Lib.hid fr1) (Lib.hid (nr3.out.keep hHeld)) hsm).mono ?_; rintro e wB ⟨rfl, kB⟩)
                  go_wp2_with fail
                  refine hK.out _ _ ((hHeld.trans kB)) (fun hHeld => ?_)
                  clear hK K
                  try simp only [Act.put, List.setIfInBounds_toArray, List.set_cons_zero, List.set_cons_succ]
                  clear fl1 fr1
                  refine takeL 8 (v := ?_) rfl (by kernel_rfl) (by kernel_rfl) (by kernel_rfl) (fun _ _ _ h => h) (Or.inl ⟨by rfl, ?_⟩) (by assumption) ?_
                  rotate_left
                  · (intro wS hSw; go_simp; try with_reducible rfl)
                  try simp only [Act.put, List.setIfInBounds_toArray, List.set_cons_zero, List.set_cons_succ]
                  refine takeL 9 (v := ?_) rfl (by kernel_rfl) (by kernel_rfl) (by kernel_rfl) (fun _ _ _ h => h) (Or.inl ⟨by rfl, ?_⟩) (by assumption) ?_
                  rotate_left
                  · (intro wS hSw; go_simp; try with_reducible rfl)
                  try simp only [Act.put, List.setIfInBounds_toArray, List.set_cons_zero, List.set_cons_succ]
                  refine takeL 10 (v := ?_) rfl (by kernel_rfl) (by kernel_rfl) (by kernel_rfl) (fun _ _ _ h => h) (Or.inl ⟨by rfl, ?_⟩) (by assumption) ?_
                  rotate_left
                  · (intro wS hSw; go_simp; try with_reducible rfl)
                  try simp only [Act.put, List.setIfInBounds_toArray, List.set_cons_zero, List.set_cons_succ]
                  refine takeL 11 (v := ?_) rfl (by kernel_rfl) (by kernel_rfl) (by kernel_rfl) (fun _ _ _ h => h) (Or.inl ⟨by rfl, ?_⟩) (by assumption) ?_
                  rotate_left
                  · (intro wS hSw; go_simp; try with_reducible rfl)
                  try simp only [Act.put, List.setIfInBounds_toArray, List.set_cons_zero, List.set_cons_succ]
                  refine takeL 12 (v := ?_) rfl (by kernel_rfl) (by kernel_rfl) (by kernel_rfl) (fun _ _ _ h => h) (Or.inl ⟨by rfl, ?_⟩) (by assumption) ?_
                  rotate_left
                  · (intro wS hSw; go_simp; try with_reducible rfl)
                  try simp only [Act.put, List.setIfInBounds_toArray, List.set_cons_zero, List.set_cons_succ]
                  refine takeL 13 (v := ?_) rfl (by kernel_rfl) (by kernel_rfl) (by kernel_rfl) (fun _ _ _ h => h) (Or.inl ⟨by rfl, ?_⟩) (by assumption) ?_
                  rotate_left
                  · (intro wS hSw; go_simp; try with_reducible rfl)
                  try simp only [Act.put, List.setIfInBounds_toArray, List.set_cons_zero, List.set_cons_succ]
                  refine takeL 14 (v := ?_) rfl (by kernel_rfl) (by kernel_rfl) (by kernel_rfl) (fun _ _ _ h => h) (Or.inl ⟨by rfl, ?_⟩) (by assumption) ?_
                  rotate_left
                  · (intro wS hSw; go_simp; try with_reducible rfl)
                  try simp only [Act.put, List.setIfInBounds_toArray, List.set_cons_zero, List.set_cons_succ]
                  refine takeL 15 (v := ?_) rfl (by kernel_rfl) (by kernel_rfl) (by kernel_rfl) (fun _ _ _ h => h) (Or.inl ⟨by rfl, ?_⟩) (by assumption) ?_
                  rotate_left
                  · (intro wS hSw; go_simp; try with_reducible rfl)
                  try simp only [Act.put, List.setIfInBounds_toArray, List.set_cons_zero, List.set_cons_succ]
                  refine takeL 16 (v := ?_) rfl (by kernel_rfl) (by kernel_rfl) (by kernel_rfl) (fun _ _ _ h => h) (Or.inl ⟨by rfl, ?_⟩) (by assumption) ?_
                  rotate_left
                  · (intro wS hSw; go_simp; try with_reducible rfl)
                  try simp only [Act.put, List.setIfInBounds_toArray, List.set_cons_zero, List.set_cons_succ]
                  refine takeL 17 (v := ?_) rfl (by kernel_rfl) (by kernel_rfl) (by kernel_rfl) (fun _ _ _ h => h) (Or.inl ⟨by rfl, ?_⟩) (by assumption) ?_
                  rotate_left
                  · (intro wS hSw; go_simp; try with_reducible rfl)
                  try simp only [Act.put, List.setIfInBounds_toArray, List.set_cons_zero, List.set_cons_succ]
                  refine wpAnyH_done (by kernel_rfl) (NoPanic.normal ?_) _
                  have hfin := Lib.hid (hk3.out.trans hHeld)
                  clear hHeld
                  have hnew := Lib.hid (⟨hinv.out.1.keep hfin.out, hinv.out.2.1.keep hfin.out, hinv.out.2.2.trans hfin.out⟩ : _ ∧ _ ∧ _)
                  clear hinv
                  go_wp2_with fail
                  exact ⟨⟨1, by omega, by go_num, hnew⟩, by simp [intOf]⟩
                · skip
                  have h20' : 20 ≤ y.length := by omega
                  obtain ⟨PX, hPX⟩ : ∃ PX, PX = q := ⟨_, rfl⟩
                  obtain ⟨hgg, hoo, hPe, hrg⟩ : ∃ gg oo, q = some ⟨gg, oo, none⟩ ∧ W2.rangeAt gg oo (y.map bv) := by
                    obtain ⟨p', c', e, -, -, hrr⟩ := hXB2.out
                    obtain ⟨gg, oo, e2, h3⟩ := hrr (by omega)
                    injection e with e1 e3 e4
                    exact ⟨gg, oo, e1.trans e2, h3⟩
                  have hcap := hXB2.out.cap
                  have hrg' := Lib.hid hrg
                  have hPe' := Lib.hid hPe
                  obtain ⟨⟨hage, htype, hid', hadv, hseq, hsum, hlen⟩, hH⟩ : ∃ H, headOf y = H := ⟨_, rfl⟩
                  have hH' := Lib.hid hH
                  clear hrg hPe hPX hH
                  have hhd := lsHead_r hgg hoo d y h20' (by omega) hcap hage htype hseq hlen hid' hadv hsum W2 hrg' hH'
                  rw [← hPe'.out] at hhd
                  have hhd' := Lib.hid hhd
                  clear hhd
                  go_wp2_with fail
                  refine hhd'.out.mono ?_
                  rintro e w3 ⟨rfl, k3⟩
                  have b1 : decide ((y.length : Int) < 20) = false := decide_eq_false (by omega)
                  have b2 : (!decide ((y.length : Int) < 20)) = true := by rw [b1]; rfl
                  obtain ⟨W3, hW3⟩ : ∃ W3, W3 = w3.alloc (.cells #[.int .i64 hage, .int .i64 htype, .int .u32 hid', .int .u32 hadv, .int .i64 hseq, .int .u16 hsum, .int .i64 hlen] 45) := ⟨_, rfl⟩
                  have k3' : Keeps (fun _ => False) W2 W3 := by rw [hW3]; exact k3.alloc _
                  have hM13 := Lib.hid (hM12.out.keep k3' (fun f => f)); have hM23 := Lib.hid (hM2.out.keep k3' (fun f => f)); have ml3 := Lib.hid (ml2.out.keep k3'); have mr3 := Lib.hid (mr2.out.keep k3'); have nl3 := Lib.hid (nl2.out.keep k3'); have nr3 := Lib.hid (nr2.out.keep k3')
                  have hk3 := Lib.hid (hk2.out.trans k3')
                  have hW3' := Lib.hid hW3
                  clear k3 k3' hW3 hM12 hM2 ml2 mr2 nl2 nr2 hk2 hXB2
                  go_upto_region 19 with ((with_reducible refine at_store 16 ?_); refine wpList_store_new rfl 45 (.tmp 16) (.tmp 81) rfl _ _ rfl rfl headInfo rfl (head_one _ _ _ _ _ _ _) ?_)
                  rw [← hW3'.out]
                  clear hW3'
                  have hsm : Hid (sameB ⟨mage, mtype, mid, madv, mseq, mlinks, mmask, mrouters, mcost⟩ ⟨mage, mtype, mid, madv, mseq, mlinks, mmask, mrouters, mcost⟩ = true) := Lib.hid (sameB_self _)
                  refine wp_region_noPanic ?_
                  refine wp_region_held_drew (S := (fun W => Keeps (fun _ => False) W3 W)) (by kernel_rfl) (((Keeps.refl (fun _ => False) _).drew)) (fun hHeld => ?_)
                  refine takeL 0 (v := ?_) rfl (by kernel_rfl) (by kernel_rfl) (by kernel_rfl) (fun _ _ _ h => h) (Or.inl ⟨by rfl, ?_⟩) (by assumption) ?_
                  rotate_left
                  · (intro wS hSw; go_simp; try with_reducible rfl)
                  try simp only [Act.put, List.setIfInBounds_toArray, List.set_cons_zero, List.set_cons_succ]
                  refine takeL 1 (v := ?_) rfl (by kernel_rfl) (by kernel_rfl) (by kernel_rfl) (fun _ _ _ h => h) (Or.inl ⟨by rfl, ?_⟩) (by assumption) ?_
                  rotate_left
                  · (intro wS hSw; go_simp; try with_reducible rfl)
                  try simp only [Act.put, List.setIfInBounds_toArray, List.set_cons_zero, List.set_cons_succ]
                  refine takeL 2 (v := ?_) rfl (by kernel_rfl) (by kernel_rfl) (by kernel_rfl) (fun _ _ _ h => h) (Or.inl ⟨by rfl, ?_⟩) (by assumption) ?_
                  rotate_left
                  · (intro wS hSw; go_simp; try with_reducible rfl)
                  try simp only [Act.put, List.setIfInBounds_toArray, List.set_cons_zero, List.set_cons_succ]
                  refine takeL 3 (v := ?_) rfl (by kernel_rfl) (by kernel_rfl) (by kernel_rfl) (fun _ _ _ h => h) (Or.inl ⟨by rfl, ?_⟩) (by assumption) ?_
                  rotate_left
                  · (intro wS hSw; go_simp; try with_reducible rfl)
                  try simp only [Act.put, List.setIfInBounds_toArray, List.set_cons_zero, List.set_cons_succ]
                  refine takeL 4 rfl (by kernel_rfl) (by kernel_rfl) (by kernel_rfl) (fun _ _ _ h => h) (yieldsIf_load_mid (by rfl) 36 (.tmp 12) rfl w1.heap.size 0 rfl [.int .i64 mage, .int .i64 mtype, .int .u32 mid, .int .u32 madv, .int .i64 mseq, .slice a5 mlinks.length b5, .int .u32 mmask, .slice a7 mrouters.length b7, .int .i64 mcost] _ (fun _ s => (hM13.out.keep s (fun f => f)).range) Try.underlying36 rfl lsaInfo) (by assumption) ?_
                  try simp only [Act.put, List.setIfInBounds_toArray, List.set_cons_zero, List.set_cons_succ]
                  refine takeL 6 rfl (by kernel_rfl) (by kernel_rfl) (by kernel_rfl) (fun _ _ _ h => h) (yieldsIf_load_mid (by rfl) 28 (.tmp 14) rfl w2.heap.size 0 rfl [.int .i64 mage, .int .i64 mtype, .int .u32 mid, .int .u32 madv, .int .i64 mseq, .slice s5 mlinks.length t5, .int .u32 mmask, .slice s7 mrouters.length t7, .int .i64 mcost] _ (fun _ s => (hM23.out.keep s (fun f => f)).range) Try.underlying28 rfl lsaInfoR) (by assumption) ?_
                  try simp only [Act.put, List.setIfInBounds_toArray, List.set_cons_zero, List.set_cons_succ]
                  refine stepL 5 rfl (by kernel_rfl) (fun K hK => ?_)
                  go_simp
                  (refine (lwFrom_any mage mtype mseq mcost mid madv mmask mlinks mrouters a5 a7 b5 b7 _ (Lib.hid (ml3.out.keep hHeld)) (Lib.hid (mr3.out.keep hHeld)) (by omega) (by omega)).mono ?_; rintro e wA ⟨⟨x5, y5, x7, y7, rfl, fl1, fr1⟩, kA⟩)
                  go_wp2_with fail
                  refine hK.out _ _ ((hHeld.trans kA)) (fun hHeld => ?_)
                  clear hK K
                  try simp only [Act.put, List.setIfInBounds_toArray, List.set_cons_zero, List.set_cons_succ]
                  refine stepL 7 rfl (by kernel_rfl) (fun K hK => ?_)
                  go_simp
                  (refine (r10Same_any mage mtype mseq mcost mage mtype mseq mcost mid madv mmask mid madv mmask mlinks mlinks mrouters mrouters x5 x7 s5 s7 y5 y7 t5 t7 true _ (by omega) (by omega) (by omega) (by omega) (Lib.hid fl1) (Lib.hid (nl3.out.keep hHeld)) (Lib.hid fr1) (Lib.hid (nr3.out.keep hHeld)) hsm).mono ?_; rintro e wB ⟨rfl, kB⟩)
                  go_wp2_with fail
                  refine hK.out _ _ ((hHeld.trans kB)) (fun hHeld => ?_)
                  clear hK K
                  try simp only [Act.put, List.setIfInBounds_toArray, List.set_cons_zero, List.set_cons_succ]
                  clear fl1 fr1
                  refine takeL 8 (v := ?_) rfl (by kernel_rfl) (by kernel_rfl) (by kernel_rfl) (fun _ _ _ h => h) (Or.inl ⟨by rfl, ?_⟩) (by assumption) ?_
                  rotate_left
                  · (intro wS hSw; go_simp; try with_reducible rfl)
                  try simp only [Act.put, List.setIfInBounds_toArray, List.set_cons_zero, List.set_cons_succ]
                  refine takeL 9 (v := ?_) rfl (by kernel_rfl) (by kernel_rfl) (by kernel_rfl) (fun _ _ _ h => h) (Or.inl ⟨by rfl, ?_⟩) (by assumption) ?_
                  rotate_left
                  · (intro wS hSw; go_simp; try with_reducible rfl)
                  try simp only [Act.put, List.setIfInBounds_toArray, List.set_cons_zero, List.set_cons_succ]
                  refine takeL 10 (v := ?_) rfl (by kernel_rfl) (by kernel_rfl) (by kernel_rfl) (fun _ _ _ h => h) (Or.inl ⟨by rfl, ?_⟩) (by assumption) ?_
                  rotate_left
                  · (intro wS hSw; go_simp; try with_reducible rfl)
                  try simp only [Act.put, List.setIfInBounds_toArray, List.set_cons_zero, List.set_cons_succ]
                  refine takeL 11 (v := ?_) rfl (by kernel_rfl) (by kernel_rfl) (by kernel_rfl) (fun _ _ _ h => h) (Or.inl ⟨by rfl, ?_⟩) (by assumption) ?_
                  rotate_left
                  · (intro wS hSw; go_simp; try with_reducible rfl)
                  try simp only [Act.put, List.setIfInBounds_toArray, List.set_cons_zero, List.set_cons_succ]
                  refine takeL 12 (v := ?_) rfl (by kernel_rfl) (by kernel_rfl) (by kernel_rfl) (fun _ _ _ h => h) (Or.inl ⟨by rfl, ?_⟩) (by assumption) ?_
                  rotate_left
                  · (intro wS hSw; go_simp; try with_reducible rfl)
                  try simp only [Act.put, List.setIfInBounds_toArray, List.set_cons_zero, List.set_cons_succ]
                  refine takeL 13 (v := ?_) rfl (by kernel_rfl) (by kernel_rfl) (by kernel_rfl) (fun _ _ _ h => h) (Or.inl ⟨by rfl, ?_⟩) (by assumption) ?_
                  rotate_left
                  · (intro wS hSw; go_simp; try with_reducible rfl)
                  try simp only [Act.put, List.setIfInBounds_toArray, List.set_cons_zero, List.set_cons_succ]
                  refine takeL 14 (v := ?_) rfl (by kernel_rfl) (by kernel_rfl) (by kernel_rfl) (fun _ _ _ h => h) (Or.inl ⟨by rfl, ?_⟩) (by assumption) ?_
                  rotate_left
                  · (intro wS hSw; go_simp; try with_reducible rfl)
                  try simp only [Act.put, List.setIfInBounds_toArray, List.set_cons_zero, List.set_cons_succ]
                  refine takeL 15 (v := ?_) rfl (by kernel_rfl) (by kernel_rfl) (by kernel_rfl) (fun _ _ _ h => h) (Or.inl ⟨by rfl, ?_⟩) (by assumption) ?_
                  rotate_left
                  · (intro wS hSw; go_simp; try with_reducible rfl)
                  try simp only [Act.put, List.setIfInBounds_toArray, List.set_cons_zero, List.set_cons_succ]
                  refine takeL 16 (v := ?_) rfl (by kernel_rfl) (by kernel_rfl) (by kernel_rfl) (fun _ _ _ h => h) (Or.inl ⟨by rfl, ?_⟩) (by assumption) ?_
                  rotate_left
                  · (intro wS hSw; go_simp; try with_reducible rfl)
                  try simp only [Act.put, List.setIfInBounds_toArray, List.set_cons_zero, List.set_cons_succ]
                  refine takeL 17 (v := ?_) rfl (by kernel_rfl) (by kernel_rfl) (by kernel_rfl) (fun _ _ _ h => h) (Or.inl ⟨by rfl, ?_⟩) (by assumption) ?_
                  rotate_left
                  · (intro wS hSw; go_simp; try with_reducible rfl)
                  try simp only [Act.put, List.setIfInBounds_toArray, List.set_cons_zero, List.set_cons_succ]
                  refine wpAnyH_done (by kernel_rfl) (NoPanic.normal ?_) _
                  have hfin := Lib.hid (hk3.out.trans hHeld)
                  clear hHeld
                  have hnew := Lib.hid (⟨hinv.out.1.keep hfin.out, hinv.out.2.1.keep hfin.out, hinv.out.2.2.trans hfin.out⟩ : _ ∧ _ ∧ _)
                  clear hinv
                  go_wp2_with fail
                  exact ⟨⟨1, by omega, by go_num, hnew⟩, by simp [intOf]⟩
              · skip
                have hXB := Lib.hid (hinv.out.2.1)
                have hXl : r.length ≤ 504 := by omega
                obtain ⟨⟨mage, mtype, mid, madv, mseq, mlinks, mmask, mrouters, mcost⟩, e0, hg⟩ : ∃ m e0, getL r = (m, e0) := ⟨_, _, rfl⟩
                have hlm := getL_lens r
                rw [hg] at hlm
                simp only at hlm
                have hg' := Lib.hid hg; clear hg
                go_wp2_with fail
                refine (lsGet_r _ r ⟨mage, mtype, mid, madv, mseq, mlinks, mmask, mrouters, mcost⟩ e0 (by omega) _ hXB hg').mono ?_
                rintro e w1 ⟨⟨a5, b5, a7, b7, rfl, ml, mr⟩, k1⟩
                simp only
                have ml' := Lib.hid ml; have mr' := Lib.hid mr
                obtain ⟨W1, hW1⟩ : ∃ W1, W1 = w1.alloc (.cells #[.int .i64 mage, .int .i64 mtype, .int .u32 mid, .int .u32 madv, .int .i64 mseq, .slice a5 mlinks.length b5, .int .u32 mmask, .slice a7 mrouters.length b7, .int .i64 mcost] 36) := ⟨_, rfl⟩
                have ka : Keeps (fun _ => False) w1 W1 := by rw [hW1]; exact (Keeps.refl _ _).alloc _
                have k1' := Lib.hid (k1.trans ka)
                have hM1 : Hid (BlkAt W1 w1.heap.size 36 [.int .i64 mage, .int .i64 mtype, .int .u32 mid, .int .u32 madv, .int .i64 mseq, .slice a5 mlinks.length b5, .int .u32 mmask, .slice a7 mrouters.length b7, .int .i64 mcost]) := Lib.hid (by rw [hW1]; exact BlkAt.new w1 36 [.int .i64 mage, .int .i64 mtype, .int .u32 mid, .int .u32 madv, .int .i64 mseq, .slice a5 mlinks.length b5, .int .u32 mmask, .slice a7 mrouters.length b7, .int .i64 mcost])
                have ml1 := Lib.hid (ml'.out.keep ka); have mr1 := Lib.hid (mr'.out.keep ka); have hXB1 := Lib.hid (hXB.out.keep k1'.out)
                have hW1' := Lib.hid hW1
                clear ml mr ml' mr' k1 ka hW1
                go_upto_region 17 with ((with_reducible refine at_store 12 ?_); refine wpList_store_new rfl 36 (.tmp 12) (.tmp 71) rfl _ _ rfl rfl lsaInfo rfl (lsa_one _ _ _ _ _ _ _ _ _ (slice_one _ _ _) (slice_one _ _ _)) ?_)
                rw [← hW1'.out]
                clear hW1'
                go_wp2_with fail
                refine (r10Get_r _ r ⟨mage, mtype, mid, madv, mseq, mlinks, mmask, mrouters, mcost⟩ e0 (by omega) _ hXB1 hg').mono ?_
                rintro e w2 ⟨⟨s5, t5, s7, t7, rfl, nl, nr⟩, k2⟩
                simp only
                have nl' := Lib.hid nl; have nr' := Lib.hid nr
                obtain ⟨W2, hW2⟩ : ∃ W2, W2 = w2.alloc (.cells #[.int .i64 mage, .int .i64 mtype, .int .u32 mid, .int .u32 madv, .int .i64 mseq, .slice s5 mlinks.length t5, .int .u32 mmask, .slice s7 mrouters.length t7, .int .i64 mcost] 28) := ⟨_, rfl⟩
                have ka : Keeps (fun _ => False) w2 W2 := by rw [hW2]; exact (Keeps.refl _ _).alloc _
                have k2' := Lib.hid (k2.trans ka)
                have hM2 : Hid (BlkAt W2 w2.heap.size 28 [.int .i64 mage, .int .i64 mtype, .int .u32 mid, .int .u32 madv, .int .i64 mseq, .slice s5 mlinks.length t5, .int .u32 mmask, .slice s7 mrouters.length t7, .int .i64 mcost]) := Lib.hid (by rw [hW2]; exact BlkAt.new w2 28 [.int .i64 mage, .int .i64 mtype, .int .u32 mid, .int .u32 madv, .int .i64 mseq, .slice s5 mlinks.length t5, .int .u32 mmask, .slice s7 mrouters.length t7, .int .i64 mcost])
                have nl2 := Lib.hid (nl'.out.keep ka); have nr2 := Lib.hid (nr'.out.keep ka); have hXB2 := Lib.hid (hXB1.out.keep k2'.out)
                have hM12 := Lib.hid (hM1.out.keep k2'.out (fun f => f)); have ml2 := Lib.hid (ml1.out.keep k2'.out); have mr2 := Lib.hid (mr1.out.keep k2'.out)
                have hk2 := Lib.hid (k1'.out.trans k2'.out)
                have hW2' := Lib.hid hW2
                clear nl nr nl' nr' k2 ka hW2 hM1 ml1 mr1 hXB1 hXB k1' k2'
                go_upto_region 18 with ((with_reducible refine at_store 14 ?_); refine wpList_store_new rfl 28 (.tmp 14) (.tmp 76) rfl _ _ rfl rfl lsaInfoR rfl (lsa_one _ _ _ _ _ _ _ _ _ (slice_one _ _ _) (slice_one _ _ _)) ?_)
                rw [← hW2'.out]
                clear hW2'
                by_cases h20 : r.length < 20
                · skip
                  go_wp2_with fail
                  refine (lsHead_no pr r.length cr h20 _).mono ?_
                  rintro e w3 ⟨rfl, k3⟩
                  have b1 : decide ((r.length : Int) < 20) = true := decide_eq_true (by omega)
                  have b2 : (!decide ((r.length : Int) < 20)) = false := by rw [b1]; rfl
                  obtain ⟨W3, hW3⟩ : ∃ W3, W3 = w3.alloc (.cells #[.int .i64 0, .int .i64 0, .int .u32 0, .int .u32 0, .int .i64 0, .int .u16 0, .int .i64 0] 45) := ⟨_, rfl⟩
                  have k3' : Keeps (fun _ => False) W2 W3 := by rw [hW3]; exact k3.alloc _
                  have hM13 := Lib.hid (hM12.out.keep k3' (fun f => f)); have hM23 := Lib.hid (hM2.out.keep k3' (fun f => f)); have ml3 := Lib.hid (ml2.out.keep k3'); have mr3 := Lib.hid (mr2.out.keep k3'); have nl3 := Lib.hid (nl2.out.keep k3'); have nr3 := Lib.hid (nr2.out.keep k3')
                  have hk3 := Lib.hid (hk2.out.trans k3')
                  have hW3' := Lib.hid hW3
                  clear k3 k3' hW3 hM12 hM2 ml2 mr2 nl2 nr2 hk2 hXB2
                  go_upto_region 19 with ((with_reducible refine at_store 16 ?_); refine wpList_store_new rfl 45 (.tmp 16) (.tmp 81) rfl _ _ rfl rfl headInfo rfl (head_one _ _ _ _ _ _ _) ?_)
                  rw [← hW3'.out]
                  clear hW3'
                  have hsm : Hid (sameB ⟨mage, mtype, mid, madv, mseq, mlinks, mmask, mrouters, mcost⟩ ⟨mage, mtype, mid, madv, mseq, mlinks, mmask, mrouters, mcost⟩ = true) := Lib.hid (sameB_self _)
                  refine wp_region_noPanic ?_
                  refine wp_region_held_drew (S := (fun W => Keeps (fun _ => False) W3 W)) (by kernel_rfl) (((Keeps.refl (fun _ => False) _).drew)) (fun hHeld => ?_)
                  refine takeL 0 (v := ?_) rfl (by kernel_rfl) (by kernel_rfl) (by kernel_rfl) (fun _ _ _ h => h) (Or.inl ⟨by rfl, ?_⟩) (by assumption) ?_
                  rotate_left
                  · (intro wS hSw; go_simp; try with_reducible rfl)
                  try simp only [Act.put, List.setIfInBounds_toArray, List.set_cons_zero, List.set_cons_succ]
                  refine takeL 1 (v := ?_) rfl (by kernel_rfl) (by kernel_rfl) (by kernel_rfl) (fun _ _ _ h => h) (Or.inl ⟨by rfl, ?_⟩) (by assumption) ?_
                  rotate_left
                  · (intro wS hSw; go_simp; try with_reducible rfl)
                  try simp only [Act.put, List.setIfInBounds_toArray, List.set_cons_zero, List.set_cons_succ]
                  refine takeL 2 (v := ?_) rfl (by kernel_rfl) (by kernel_rfl) (by kernel_rfl) (fun _ _ _ h => h) (Or.inl ⟨by rfl, ?_⟩) (by assumption) ?_
                  rotate_left
                  · (intro wS hSw; go_simp; try with_reducible rfl)
                  try simp only [Act.put, List.setIfInBounds_toArray, List.set_cons_zero, List.set_cons_succ]
                  refine takeL 3 (v := ?_) rfl (by kernel_rfl) (by kernel_rfl) (by kernel_rfl) (fun _ _ _ h => h) (Or.inl ⟨by rfl, ?_⟩) (by assumption) ?_
                  rotate_left
                  · (intro wS hSw; go_simp; try with_reducible rfl)
                  try simp only [Act.put, List.setIfInBounds_toArray, List.set_cons_zero, List.set_cons_succ]
                  refine takeL 4 rfl (by kernel_rfl) (by kernel_rfl) (by kernel_rfl) (fun _ _ _ h => h) (yieldsIf_load_mid (by rfl) 36 (.tmp 12) rfl w1.heap.size 0 rfl [.int .i64 mage, .int .i64 mtype, .int .u32 mid, .int .u32 madv, .int .i64 mseq, .slice a5 mlinks.length b5, .int .u32 mmask, .slice a7 mrouters.length b7, .int .i64 mcost] _ (fun _ s => (hM13.out.keep s (fun f => f)).range) Try.underlying36 rfl lsaInfo) (by assumption) ?_
                  try simp only [Act.put, List.setIfInBounds_toArray, List.set_cons_zero, List.set_cons_succ]
                  refine takeL 6 rfl (by kernel_rfl) (by kernel_rfl) (by kernel_rfl) (fun _ _ _ h => h) (yieldsIf_load_mid (by rfl) 28 (.tmp 14) rfl w2.heap.size 0 rfl [.int .i64 mage, .int .i64 mtype, .int .u32 mid, .int .u32 madv, .int .i64 mseq, .slice s5 mlinks.length t5, .int .u32 mmask, .slice s7 mrouters.length t7, .int .i64 mcost] _ (fun _ s => (hM23.out.keep s (fun f => f)).range) Try.underlying28 rfl lsaInfoR) (by assumption) ?_
                  try simp only [Act.put, List.setIfInBounds_toArray, List.set_cons_zero, List.set_cons_succ]
                  refine stepL 5 rfl (by kernel_rfl) (fun K hK => ?_)
                  go_simp
                  (refine (lwFrom_any mage mtype mseq mcost mid madv mmask mlinks mrouters a5 a7 b5 b7 _ (Lib.hid (ml3.out.keep hHeld)) (Lib.hid (mr3.out.keep hHeld)) (by omega) (by omega)).mono ?_; rintro e wA ⟨⟨x5, y5, x7, y7, rfl, fl1, fr1⟩, kA⟩)
                  go_wp2_with fail
                  refine hK.out _ _ ((hHeld.trans kA)) (fun hHeld => ?_)
                  clear hK K
                  try simp only [Act.put, List.setIfInBounds_toArray, List.set_cons_zero, List.set_cons_succ]
                  refine stepL 7 rfl (by kernel_rfl) (fun K hK => ?_)
                  go_simp
                  (refine (r10Same_any mage mtype mseq mcost mage mtype mseq mcost mid madv mmask mid madv mmask mlinks mlinks mrouters mrouters x5 x7 s5 s7 y5 y7 t5 t7 true _ (by omega) (by omega) (by omega) (by omega) (Lib.hid fl1) (Lib.hid (nl3.out.keep hHeld)) (Lib.hid fr1) (Lib.hid (nr3.out.keep hHeld)) hsm).mono ?_; rintro e wB ⟨rfl, kB⟩)
                  go_wp2_with fail
                  refine hK.out _ _ ((hHeld.trans kB)) (fun hHeld => ?_)
                  clear hK K
                  try simp only [Act.put, List.setIfInBounds_toArray, List.set_cons_zero, List.set_cons_succ]
                  clear fl1 fr1
                  refine takeL 8 (v := ?_) rfl (by kernel_rfl) (by kernel_rfl) (by kernel_rfl) (fun _ _ _ h => h) (Or.inl ⟨by rfl, ?_⟩) (by assumption) ?_
                  rotate_left
                  · (intro wS hSw; go_simp; try with_reducible rfl)
                  try simp only [Act.put, List.setIfInBounds_toArray, List.set_cons_zero, List.set_cons_succ]
                  refine takeL 9 (v := ?_) rfl (by kernel_rfl) (by kernel_rfl) (by kernel_rfl) (fun _ _ _ h => h) (Or.inl ⟨by rfl, ?_⟩) (by assumption) ?_
                  rotate_left
                  · (intro wS hSw; go_simp; try with_reducible rfl)
                  try simp only [Act.put, List.setIfInBounds_toArray, List.set_cons_zero, List.set_cons_succ]
                  refine takeL 10 (v := ?_) rfl (by kernel_rfl) (by kernel_rfl) (by kernel_rfl) (fun _ _ _ h => h) (Or.inl ⟨by rfl, ?_⟩) (by assumption) ?_
                  rotate_left
                  · (intro wS hSw; go_simp; try with_reducible rfl)
                  try simp only [Act.put, List.setIfInBounds_toArray, List.set_cons_zero, List.set_cons_succ]
                  refine takeL 11 (v := ?_) rfl (by kernel_rfl) (by kernel_rfl) (by kernel_rfl) (fun _ _ _ h => h) (Or.inl ⟨by rfl, ?_⟩) (by assumption) ?_
                  rotate_left
                  · (intro wS hSw; go_simp; try with_reducible rfl)
                  try simp only [Act.put, List.setIfInBounds_toArray, List.set_cons_zero, List.set_cons_succ]
                  refine takeL 12 (v := ?_) rfl (by kernel_rfl) (by kernel_rfl) (by kernel_rfl) (fun _ _ _ h => h) (Or.inl ⟨by rfl, ?_⟩) (by assumption) ?_
                  rotate_left
                  · (intro wS hSw; go_simp; try with_reducible rfl)
                  try simp only [Act.put, List.setIfInBounds_toArray, List.set_cons_zero, List.set_cons_succ]
                  refine takeL 13 (v := ?_) rfl (by kernel_rfl) (by kernel_rfl) (by kernel_rfl) (fun _ _ _ h => h) (Or.inl ⟨by rfl, ?_⟩) (by assumption) ?_
                  rotate_left
                  · (intro wS hSw; go_simp; try with_reducible rfl)
                  try simp only [Act.put, List.setIfInBounds_toArray, List.set_cons_zero, List.set_cons_succ]
                  refine takeL 14 (v := ?_) rfl (by kernel_rfl) (by kernel_rfl) (by kernel_rfl) (fun _ _ _ h => h) (Or.inl ⟨by rfl, ?_⟩) (by assumption) ?_
                  rotate_left
                  · (intro wS hSw; go_simp; try with_reducible rfl)
                  try simp only [Act.put, List.setIfInBounds_toArray, List.set_cons_zero, List.set_cons_succ]
                  refine takeL 15 (v := ?_) rfl (by kernel_rfl) (by kernel_rfl) (by kernel_rfl) (fun _ _ _ h => h) (Or.inl ⟨by rfl, ?_⟩) (by assumption) ?_
                  rotate_left
                  · (intro wS hSw; go_simp; try with_reducible rfl)
                  try simp only [Act.put, List.setIfInBounds_toArray, List.set_cons_zero, List.set_cons_succ]
                  refine takeL 16 (v := ?_) rfl (by kernel_rfl) (by kernel_rfl) (by kernel_rfl) (fun _ _ _ h => h) (Or.inl ⟨by rfl, ?_⟩) (by assumption) ?_
                  rotate_left
                  · (intro wS hSw; go_simp; try with_reducible rfl)
                  try simp only [Act.put, List.setIfInBounds_toArray, List.set_cons_zero, List.set_cons_succ]
                  refine takeL 17 (v := ?_) rfl (by kernel_rfl) (by kernel_rfl) (by kernel_rfl) (fun _ _ _ h => h) (Or.inl ⟨by rfl, ?_⟩) (by assumption) ?_
                  rotate_left
                  · (intro wS hSw; go_simp; try with_reducible rfl)
                  try simp only [Act.put, List.setIfInBounds_toArray, List.set_cons_zero, List.set_cons_succ]
                  refine wpAnyH_done (by kernel_rfl) (NoPanic.normal ?_) _
                  have hfin := Lib.hid (hk3.out.trans hHeld)
                  clear hHeld
                  have hnew := Lib.hid (⟨hinv.out.1.keep hfin.out, hinv.out.2.1.keep hfin.out, hinv.out.2.2.trans hfin.out⟩ : _ ∧ _ ∧ _)
                  clear hinv
                  go_wp2_with fail
                  exact ⟨⟨2, by omega, by go_num, hnew⟩, by simp [intOf]⟩
                · skip
                  have h20' : 20 ≤ r.length := by omega
                  obtain ⟨PX, hPX⟩ : ∃ PX, PX = pr := ⟨_, rfl⟩
                  obtain ⟨hgg, hoo, hPe, hrg⟩ : ∃ gg oo, pr = some ⟨gg, oo, none⟩ ∧ W2.rangeAt gg oo (r.map bv) := by
                    obtain ⟨p', c', e, -, -, hrr⟩ := hXB2.out
                    obtain ⟨gg, oo, e2, h3⟩ := hrr (by omega)
                    injection e with e1 e3 e4
                    exact ⟨gg, oo, e1.trans e2, h3⟩
                  have hcap := hXB2.out.cap
                  have hrg' := Lib.hid hrg
                  have hPe' := Lib.hid hPe
                  obtain ⟨⟨hage, htype, hid', hadv, hseq, hsum, hlen⟩, hH⟩ : ∃ H, headOf r = H := ⟨_, rfl⟩
                  have hH' := Lib.hid hH
                  clear hrg hPe hPX hH
                  have hhd := lsHead_r hgg hoo cr r h20' (by omega) hcap hage htype hseq hlen hid' hadv hsum W2 hrg' hH'
                  rw [← hPe'.out] at hhd
                  have hhd' := Lib.hid hhd
                  clear hhd
                  go_wp2_with fail
                  refine hhd'.out.mono ?_
                  rintro e w3 ⟨rfl, k3⟩
                  have b1 : decide ((r.length : Int) < 20) = false := decide_eq_false (by omega)
                  have b2 : (!decide ((r.length : Int) < 20)) = true := by rw [b1]; rfl
                  obtain ⟨W3, hW3⟩ : ∃ W3, W3 = w3.alloc (.cells #[.int .i64 hage, .int .i64 htype, .int .u32 hid', .int .u32 hadv, .int .i64 hseq, .int .u16 hsum, .int .i64 hlen] 45) := ⟨_, rfl⟩
                  have k3' : Keeps (fun _ => False) W2 W3 := by rw [hW3]; exact k3.alloc _
                  have hM13 := Lib.hid (hM12.out.keep k3' (fun f => f)); have hM23 := Lib.hid (hM2.out.keep k3' (fun f => f)); have ml3 := Lib.hid (ml2.out.keep k3'); have mr3 := Lib.hid (mr2.out.keep k3'); have nl3 := Lib.hid (nl2.out.keep k3'); have nr3 := Lib.hid (nr2.out.keep k3')
                  have hk3 := Lib.hid (hk2.out.trans k3')
                  have hW3' := Lib.hid hW3
                  clear k3 k3' hW3 hM12 hM2 ml2 mr2 nl2 nr2 hk2 hXB2
                  go_upto_region 19 with ((with_reducible refine at_store 16 ?_); refine wpList_store_new rfl 45 (.tmp 16) (.tmp 81) rfl _ _ rfl rfl headInfo rfl (head_one _ _ _ _ _ _ _) ?_)
                  rw [← hW3'.out]
                  clear hW3'
                  have hsm : Hid (sameB ⟨mage, mtype, mid, madv, mseq, mlinks, mmask, mrouters, mcost⟩ ⟨mage, mtype, mid, madv, mseq, mlinks, mmask, mrouters, mcost⟩ = true) := Lib.hid (sameB_self _)
                  refine wp_region_noPanic ?_
                  refine wp_region_held_drew (S := (fun W => Keeps (fun _ => False) W3 W)) (by kernel_rfl) (((Keeps.refl (fun _ => False) _).drew)) (fun hHeld => ?_)
                  refine takeL 0 (v := ?_) rfl (by kernel_rfl) (by kernel_rfl) (by kernel_rfl) (fun _ _ _ h => h) (Or.inl ⟨by rfl, ?_⟩) (by assumption) ?_
                  rotate_left
                  · (intro wS hSw; go_simp; try with_reducible rfl)
                  try simp only [Act.put, List.setIfInBounds_toArray, List.set_cons_zero, List.set_cons_succ]
                  refine takeL 1 (v := ?_) rfl (by kernel_rfl) (by kernel_rfl) (by kernel_rfl) (fun _ _ _ h => h) (Or.inl ⟨by rfl, ?_⟩) (by assumption) ?_
                  rotate_left
                  · (intro wS hSw; go_simp; try with_reducible rfl)
                  try simp only [Act.put, List.setIfInBounds_toArray, List.set_cons_zero, List.set_cons_succ]
                  refine takeL 2 (v := ?_) rfl (by kernel_rfl) (by kernel_rfl) (by kernel_rfl) (fun _ _ _ h => h) (Or.inl ⟨by rfl, ?_⟩) (by assumption) ?_
                  rotate_left
                  · (intro wS hSw; go_simp; try with_reducible rfl)
                  try simp only [Act.put, List.setIfInBounds_toArray, List.set_cons_zero, List.set_cons_succ]
                  refine takeL 3 (v := ?_) rfl (by kernel_rfl) (by kernel_rfl) (by kernel_rfl) (fun _ _ _ h => h) (Or.inl ⟨by rfl, ?_⟩) (by assumption) ?_
                  rotate_left
                  · (intro wS hSw; go_simp; try with_reducible rfl)
                  try simp only [Act.put, List.setIfInBounds_toArray, List.set_cons_zero, List.set_cons_succ]
                  refine takeL 4 rfl (by kernel_rfl) (by kernel_rfl) (by kernel_rfl) (fun _ _ _ h => h) (yieldsIf_load_mid (by rfl) 36 (.tmp 12) rfl w1.heap.size 0 rfl [.int .i64 mage, .int .i64 mtype, .int .u32 mid, .int .u32 madv, .int .i64 mseq, .slice a5 mlinks.length b5, .int .u32 mmask, .slice a7 mrouters.length b7, .int .i64 mcost] _ (fun _ s => (hM13.out.keep s (fun f => f)).range) Try.underlying36 rfl lsaInfo) (by assumption) ?_
                  try simp only [Act.put, List.setIfInBounds_toArray, List.set_cons_zero, List.set_cons_succ]
                  refine takeL 6 rfl (by kernel_rfl) (by kernel_rfl) (by kernel_rfl) (fun _ _ _ h => h) (yieldsIf_load_mid (by rfl) 28 (.tmp 14) rfl w2.heap.size 0 rfl [.int .i64 mage, .int .i64 mtype, .int .u32 mid, .int .u32 madv, .int .i64 mseq, .slice s5 mlinks.length t5, .int .u32 mmask, .slice s7 mrouters.length t7, .int .i64 mcost] _ (fun _ s => (hM23.out.keep s (fun f => f)).range) Try.underlying28 rfl lsaInfoR) (by assumption) ?_
                  try simp only [Act.put, List.setIfInBounds_toArray, List.set_cons_zero, List.set_cons_succ]
                  refine stepL 5 rfl (by kernel_rfl) (fun K hK => ?_)
                  go_simp
                  (refine (lwFrom_any mage mtype mseq mcost mid madv mmask mlinks mrouters a5 a7 b5 b7 _ (Lib.hid (ml3.out.keep hHeld)) (Lib.hid (mr3.out.keep hHeld)) (by omega) (by omega)).mono ?_; rintro e wA ⟨⟨x5, y5, x7, y7, rfl, fl1, fr1⟩, kA⟩)
                  go_wp2_with fail
                  refine hK.out _ _ ((hHeld.trans kA)) (fun hHeld => ?_)
                  clear hK K
                  try simp only [Act.put, List.setIfInBounds_toArray, List.set_cons_zero, List.set_cons_succ]
                  refine stepL 7 rfl (by kernel_rfl) (fun K hK => ?_)
                  go_simp
                  (refine (r10Same_any mage mtype mseq mcost mage mtype mseq mcost mid madv mmask mid madv mmask mlinks mlinks mrouters mrouters x5 x7 s5 s7 y5 y7 t5 t7 true _ (by omega) (by omega) (by omega) (by omega) (Lib.hid fl1) (Lib.hid (nl3.out.keep hHeld)) (Lib.hid fr1) (Lib.hid (nr3.out.keep hHeld)) hsm).mono ?_; rintro e wB ⟨rfl, kB⟩)
                  go_wp2_with fail
                  refine hK.out _ _ ((hHeld.trans kB)) (fun hHeld => ?_)
                  clear hK K
                  try simp only [Act.put, List.setIfInBounds_toArray, List.set_cons_zero, List.set_cons_succ]
                  clear fl1 fr1
                  refine takeL 8 (v := ?_) rfl (by kernel_rfl) (by kernel_rfl) (by kernel_rfl) (fun _ _ _ h => h) (Or.inl ⟨by rfl, ?_⟩) (by assumption) ?_
                  rotate_left
                  · (intro wS hSw; go_simp; try with_reducible rfl)
                  try simp only [Act.put, List.setIfInBounds_toArray, List.set_cons_zero, List.set_cons_succ]
                  refine takeL 9 (v := ?_) rfl (by kernel_rfl) (by kernel_rfl) (by kernel_rfl) (fun _ _ _ h => h) (Or.inl ⟨by rfl, ?_⟩) (by assumption) ?_
                  rotate_left
                  · (intro wS hSw; go_simp; try with_reducible rfl)
                  try simp only [Act.put, List.setIfInBounds_toArray, List.set_cons_zero, List.set_cons_succ]
                  refine takeL 10 (v := ?_) rfl (by kernel_rfl) (by kernel_rfl) (by kernel_rfl) (fun _ _ _ h => h) (Or.inl ⟨by rfl, ?_⟩) (by assumption) ?_
                  rotate_left
                  · (intro wS hSw; go_simp; try with_reducible rfl)
                  try simp only [Act.put, List.setIfInBounds_toArray, List.set_cons_zero, List.set_cons_succ]
                  refine takeL 11 (v := ?_) rfl (by kernel_rfl) (by kernel_rfl) (by kernel_rfl) (fun _ _ _ h => h) (Or.inl ⟨by rfl, ?_⟩) (by assumption) ?_
                  rotate_left
                  · (intro wS hSw; go_simp; try with_reducible rfl)
                  try simp only [Act.put, List.setIfInBounds_toArray, List.set_cons_zero, List.set_cons_succ]
                  refine takeL 12 (v := ?_) rfl (by kernel_rfl) (by kernel_rfl) (by kernel_rfl) (fun _ _ _ h => h) (Or.inl ⟨by rfl, ?_⟩) (by assumption) ?_
                  rotate_left
                  · (intro wS hSw; go_simp; try with_reducible rfl)
                  try simp only [Act.put, List.setIfInBounds_toArray, List.set_cons_zero, List.set_cons_succ]
                  refine takeL 13 (v := ?_) rfl (by kernel_rfl) (by kernel_rfl) (by kernel_rfl) (fun _ _ _ h => h) (Or.inl ⟨by rfl, ?_⟩) (by assumption) ?_
                  rotate_left
                  · (intro wS hSw; go_simp; try with_reducible rfl)
                  try simp only [Act.put, List.setIfInBounds_toArray, List.set_cons_zero, List.set_cons_succ]
                  refine takeL 14 (v := ?_) rfl (by kernel_rfl) (by kernel_rfl) (by kernel_rfl) (fun _ _ _ h => h) (Or.inl ⟨by rfl, ?_⟩) (by assumption) ?_
                  rotate_left
                  · (intro wS hSw; go_simp; try with_reducible rfl)
                  try simp only [Act.put, List.setIfInBounds_toArray, List.set_cons_zero, List.set_cons_succ]
                  refine takeL 15 (v := ?_) rfl (by kernel_rfl) (by kernel_rfl) (by kernel_rfl) (fun _ _ _ h => h) (Or.inl ⟨by rfl, ?_⟩) (by assumption) ?_
                  rotate_left
                  · (intro wS hSw; go_simp; try with_reducible rfl)
                  try simp only [Act.put, List.setIfInBounds_toArray, List.set_cons_zero, List.set_cons_succ]
                  refine takeL 16 (v := ?_) rfl (by kernel_rfl) (by kernel_rfl) (by kernel_rfl) (fun _ _ _ h => h) (Or.inl ⟨by rfl, ?_⟩) (by assumption) ?_
                  rotate_left
                  · (intro wS hSw; go_simp; try with_reducible rfl)
                  try simp only [Act.put, List.setIfInBounds_toArray, List.set_cons_zero, List.set_cons_succ]
                  refine takeL 17 (v := ?_) rfl (by kernel_rfl) (by kernel_rfl) (by kernel_rfl) (fun _ _ _ h => h) (Or.inl ⟨by rfl, ?_⟩) (by assumption) ?_
                  rotate_left
                  · (intro wS hSw; go_simp; try with_reducible rfl)
                  try simp only [Act.put, List.setIfInBounds_toArray, List.set_cons_zero, List.set_cons_succ]
                  refine wpAnyH_done (by kernel_rfl) (NoPanic.normal ?_) _
                  have hfin := Lib.hid (hk3.out.trans hHeld)
                  clear hHeld
                  have hnew := Lib.hid (⟨hinv.out.1.keep hfin.out, hinv.out.2.1.keep hfin.out, hinv.out.2.2.trans hfin.out⟩ : _ ∧ _ ∧ _)
                  clear hinv
                  go_wp2_with fail
                  exact ⟨⟨2, by omega, by go_num, hnew⟩, by simp [intOf]⟩
            · obtain rfl : k = 2 := by omega
              go_wp2_with fail
              refine (lwPuts_any _).mono ?_
              rintro e w2 ⟨rfl, k2⟩
              have hf := Lib.hid (hinv.out.2.2.trans k2)
              clear k2
              go_wp2_with fail
              go_ret
              exact ⟨rfl, hf.out⟩
end Go.Proofs.Ytiogeepffdpafaa
