/- The document's Put of an Lsa, walked (gen_lah.py writes this). -/
import Derived.Test.YtdaongflpllfhaaLS18
set_option linter.unusedVariables false
set_option linter.unusedSimpArgs false
namespace Go.Proofs.Ytdaongflpllfhaa
open Go.RowKit

set_option maxRecDepth 100000 in
theorem r10Put_no (age type seq cost : Int) (lid adv mask : Nat) (links : List LinkD) (routers : List Nat) (p5 p7 : Option Addr) (c5 c7 : Nat) (w : World)
    (hl : Hid (LinksAt w (.slice p5 links.length c5) links)) (hll : links.length ≤ 9223372036854775807) (hrl : routers.length ≤ 9223372036854775807) (hz : Hid (canB ⟨age, type, lid, adv, seq, links, mask, routers, cost⟩ = false)) :
    Calls Try.prog 60 #[.agg #[.int .i64 age, .int .i64 type, .int .u32 lid, .int .u32 adv, .int .i64 seq, .slice p5 links.length c5, .int .u32 mask, .slice p7 routers.length c7, .int .i64 cost]] w (fun e w' => e = .returned (.tuple #[.slice none 0 0, .bool false]) ∧ Keeps (fun _ => False) w w') := by
  have hB : Hid ((w.alloc (.cells #[.int .i64 age, .int .i64 type, .int .u32 lid, .int .u32 adv, .int .i64 seq, .slice p5 links.length c5, .int .u32 mask, .slice p7 routers.length c7, .int .i64 cost] 48)).rangeAt w.heap.size 0 [.int .i64 age, .int .i64 type, .int .u32 lid, .int .u32 adv, .int .i64 seq, .slice p5 links.length c5, .int .u32 mask, .slice p7 routers.length c7, .int .i64 cost]) := Lib.hid (new_rangeb w _ 48)
  have kB : Hid (Keeps (fun _ => False) w (w.alloc (.cells #[.int .i64 age, .int .i64 type, .int .u32 lid, .int .u32 adv, .int .i64 seq, .slice p5 links.length c5, .int .u32 mask, .slice p7 routers.length c7, .int .i64 cost] 48))) := Lib.hid ((Keeps.refl _ _).alloc _)
  go_enter Try.func60, Try.ntmps60
  go_wp2_with ((with_reducible refine at_slot 12 ?_); refine wpList_load_mid rfl 48 (.tmp 1) rfl w.heap.size 0 rfl _ _ hB.out Try.underlying48 rfl lsaInfoR ?_)
  refine (r10Right_any age type seq cost lid adv mask links routers p5 p7 c5 c7 false _ (Lib.hid (hl.out.keep kB.out)) hll hrl hz).mono ?_
  rintro e w2 ⟨rfl, k2⟩
  have k2' := Lib.hid (kB.out.trans k2); clear k2
  go_wp2_with fail
  go_ret2
  exact ⟨rfl, k2'.out⟩
theorem r10LinkInfo : (Try.prog.info? 91).map (·.size) = some 4 := by kernel_rfl
theorem be4_small (n : Nat) (h : n < 65536) : be 4 n = [0, 0] ++ be 2 n := by
  rw [be4, be2, Nat.div_eq_of_lt (show n < 16777216 by omega), Nat.div_eq_of_lt h]; rfl
theorem range_lt {w : World} {g : Nat} {v : Value} {cs : List Value} (h : w.rangeAt g 0 (v :: cs)) : g < w.heap.size := by
  have := h 0 v rfl
  exact World.block_lt_of_cell? _ _ this
theorem OwnB.lt {w0 w : World} {v : Value} {x : List UInt8} (h : OwnB w0 w v x) : ∀ k, v.ownBlock = some k → k < w.heap.size := fun k e => by
  rcases h.1.2 with ⟨e1, _⟩ | ⟨g, cap, cur, he, _, hg, _⟩
  · rw [e1] at e; simp [Value.ownBlock] at e
  · rw [he] at e
    have e : some g = some k := e
    injection e with e; subst e; exact lt_of_block hg
theorem r9Fletcher_n (g o c : Nat) (l : List UInt8) (n k : Nat) (hn : Hid (l.length = n)) (hk : k + 2 ≤ n) (hl : n ≤ 1000000) (X Y : Nat) (w : World) (hr : Hid (w.rangeAt g o (l.map bv))) (hX : Hid (flX (zed l k) n k = X)) (hY : Hid (flY (zed l k) n k = Y)) :
    Calls Try.prog 96 #[.slice (some ⟨g, o, none⟩) n c, .int .i64 k] w fun e w' => e = .returned (.tuple #[.int .u8 X, .int .u8 Y]) ∧ w = w' := by
  have e := hn.out
  subst e
  exact r9Fletcher_yes g o c l k hk hl w hr X Y (Lib.hid hX.out.symm) (Lib.hid hY.out.symm)
set_option maxRecDepth 100000 in
set_option maxHeartbeats 8000000 in
theorem r10Put_yes (age type seq cost : Int) (lid adv mask : Nat) (links : List LinkD) (routers : List Nat) (p5 p7 : Option Addr) (c5 c7 : Nat) (w : World)
    (hl : Hid (LinksAt w (.slice p5 links.length c5) links)) (hr : Hid (NumsAt w (.slice p7 routers.length c7) routers)) (hlok : Hid (∀ l ∈ links, l.ok)) (hrok : Hid (Small routers)) (hid : lid < 4294967296) (hadv : adv < 4294967296) (hm : mask < 4294967296) (hz : Hid (canB ⟨age, type, lid, adv, seq, links, mask, routers, cost⟩ = true)) :
    Calls Try.prog 60 #[.agg #[.int .i64 age, .int .i64 type, .int .u32 lid, .int .u32 adv, .int .i64 seq, .slice p5 links.length c5, .int .u32 mask, .slice p7 routers.length c7, .int .i64 cost]] w (fun e w' => ∃ p c, e = .returned (.tuple #[.slice p (putB ⟨age, type, lid, adv, seq, links, mask, routers, cost⟩).length c, .bool true]) ∧ OwnB w w' (.slice p (putB ⟨age, type, lid, adv, seq, links, mask, routers, cost⟩).length c) (putB ⟨age, type, lid, adv, seq, links, mask, routers, cost⟩) ∧ Keeps (fun _ => False) w w') := by
  obtain ⟨i0, hi0, hz0, hz1, hz2⟩ := info_parts u8InfoAll
  have hlens := canB_lens hz.out
  have hlen1 : links.length ≤ 40 := hlens.1
  have hlen2 : routers.length ≤ 40 := hlens.2
  have htl := tellB_len (l := ⟨age, type, lid, adv, seq, links, mask, routers, cost⟩) hlens.1 hlens.2
  obtain ⟨Tl, hTl⟩ : ∃ T, tellB ⟨age, type, lid, adv, seq, links, mask, routers, cost⟩ = T := ⟨_, rfl⟩
  obtain ⟨Bs, hBs⟩ : ∃ B, headB ⟨age, type, lid, adv, seq, 0, 20 + (Tl.length : Int)⟩ ++ Tl = B := ⟨_, rfl⟩
  have hbase : baseB ⟨age, type, lid, adv, seq, links, mask, routers, cost⟩ = Bs := by unfold baseB; rw [hTl, ← hBs]
  have hBl : Bs.length = 20 + Tl.length := by rw [← hBs, List.length_append, headB_len]
  rw [hTl] at htl
  obtain ⟨N, hN⟩ : ∃ N, N = 20 + Tl.length := ⟨_, rfl⟩
  rw [← hN] at hBl
  obtain ⟨X, hX⟩ : ∃ X, flX (zed (Bs.drop 2) 14) (N - 2) 14 = X := ⟨_, rfl⟩
  obtain ⟨Y, hY⟩ : ∃ Y, flY (zed (Bs.drop 2) 14) (N - 2) 14 = Y := ⟨_, rfl⟩
  have lX : X < 255 := by rw [← hX]; exact flX_lt ..
  have lY : Y < 255 := by rw [← hY]; exact flY_lt ..
  have hput : putB ⟨age, type, lid, adv, seq, links, mask, routers, cost⟩ = (Bs.set 16 (UInt8.ofNat X)).set 17 (UInt8.ofNat Y) := by
    unfold putB; rw [hbase, hBl, hX, hY]
  have hputl : (putB ⟨age, type, lid, adv, seq, links, mask, routers, cost⟩).length = N := by rw [hput]; simp [hBl]
  rw [hputl, hput]
  have hN1 : 24 ≤ N := by omega
  have hN2 : N ≤ 504 := by omega
  have hTN : (Tl.length : Int) = (N : Int) - 20 := by omega
  have hTn2 : Tl.length ≤ 484 := htl.2
  have hTl' := Lib.hid hTl; have hBs' := Lib.hid hBs; have hBl' := Lib.hid hBl; have hX' := Lib.hid hX; have hY' := Lib.hid hY; have hN' := Lib.hid hN; have hTN' := Lib.hid hTN
  clear hTl hBs hBl hX hY hput hputl hbase htl hlens hN hTN
  have hB : Hid ((w.alloc (.cells #[.int .i64 age, .int .i64 type, .int .u32 lid, .int .u32 adv, .int .i64 seq, .slice p5 links.length c5, .int .u32 mask, .slice p7 routers.length c7, .int .i64 cost] 48)).rangeAt w.heap.size 0 [.int .i64 age, .int .i64 type, .int .u32 lid, .int .u32 adv, .int .i64 seq, .slice p5 links.length c5, .int .u32 mask, .slice p7 routers.length c7, .int .i64 cost]) := Lib.hid (new_rangeb w _ 48)
  have kB : Hid (Keeps (fun _ => False) w (w.alloc (.cells #[.int .i64 age, .int .i64 type, .int .u32 lid, .int .u32 adv, .int .i64 seq, .slice p5 links.length c5, .int .u32 mask, .slice p7 routers.length c7, .int .i64 cost] 48))) := Lib.hid ((Keeps.refl _ _).alloc _)
  have htold := Lib.hid (canB_told hz.out)
  go_enter Try.func60, Try.ntmps60
  go_wp2_with ((with_reducible refine at_slot 12 ?_); refine wpList_load_mid rfl 48 (.tmp 1) rfl w.heap.size 0 rfl _ _ hB.out Try.underlying48 rfl lsaInfoR ?_)
  refine (r10Right_any age type seq cost lid adv mask links routers p5 p7 c5 c7 true _ (Lib.hid (hl.out.keep kB.out)) (by omega) (by omega) hz).mono ?_
  rintro e w2 ⟨rfl, k2⟩
  have kB2 := Lib.hid (kB.out.trans k2)
  have hB2 := Lib.hid (k2.rangeAt hB.out id)
  have hl2 := Lib.hid (hl.out.keep kB2.out); have hr2 := Lib.hid (hr.out.keep kB2.out)
  have b1 := rangeAt_cell hB2.out 1 (.int .i64 type) rfl
  clear k2 kB hB hl hr hz
  have ht3 : type = 1 ∨ type = 2 ∨ type = 3 := by
    have := htold.out
    unfold toldB at this
    simp only at this
    by_cases t1 : type = 1
    · exact .inl t1
    · rw [if_neg t1] at this
      by_cases t2 : type = 2
      · exact .inr (.inl t2)
      · rw [if_neg t2] at this
        by_cases t3 : type = 3
        · exact .inr (.inr t3)
        · rw [if_neg t3] at this; cases this
  rcases ht3 with rfl | rfl | rfl
  · skip
    obtain ⟨nl, hnl⟩ : ∃ nl, links.length = nl := ⟨_, rfl⟩
    have hnl' := Lib.hid hnl
    rw [hnl] at hlen1
    have hTl1 : Hid (be 4 nl ++ linksB links = Tl) := Lib.hid (by
      rw [← hTl'.out, ← hnl]
      unfold tellB
      rw [if_pos rfl])
    clear hnl
    have wn : IntKind.u64.wrap (nl : Int) = (nl : Int) := IntWalk.u64_in _ (by omega)
    have b5 : (w2.alloc (.cells #[.int .u8 0, .int .u8 0] 5)).cell? ⟨w.heap.size, 5, none⟩ = some (.slice p5 nl c5) := by
      rw [← hnl'.out]; exact rangeAt_cell (((Keeps.refl (fun _ => False) w2).alloc _).rangeAt hB2.out (fun f => f)) 5 _ rfl
    have hO0 : Hid (OwnB w2 (w2.alloc (.cells #[.int .u8 0, .int .u8 0] 5)) (.slice (some ⟨w2.heap.size, 0, none⟩) 2 2) [0, 0]) := Lib.hid (OwnB.new w2 w2 (Nat.le_refl _) [0, 0] (n := 2) rfl (by unfold maxLen; omega))
    go_wp2_with fail
    refine (r10num_any nl 2 (by omega) (by omega) _).mono ?_
    rintro e w3 ⟨pn, cn, rfl, hN, hkn⟩
    have hO1 := Lib.hid (hO0.out.keep hkn (fun _ _ f => f))
    have hNb := Lib.hid hN.bytes
    have hK1 : Hid (Keeps (fun _ => False) w2 w3) := Lib.hid (((Keeps.refl _ _).alloc _).trans hkn)
    clear hN hkn b1 b5 hO0
    go_wp2_with ((with_reducible refine at_slot 26 ?_); refine wpList_append_b rfl (.tmp 20) (.tmp 25) 71 rfl i0 Try.underlying71 hi0 hz0 hz1 hz2 w2 _ [0, 0] rfl hO1.out _ rfl (be 2 nl) hNb.out (by rw [be_len]; simp) ?_; intro pa ca w4 hO4 hG4; rw [show ([0, 0] : List UInt8).length + (be 2 nl).length = 4 by rw [be_len]; rfl] at hO4 ⊢)
    have hN1' : Hid (OwnB w2 w4 (.slice pa (4 + 12 * 0) ca) (be 4 nl ++ linksB (links.take 0)) ∧ Keeps (fun _ => False) w2 w4) := Lib.hid ⟨by rw [List.take_zero, be4_small nl (by omega)]; simpa [linksB] using hO4.out, hO1.out.keeps hK1.out hG4.out⟩
    clear hO4 hG4 hO1 hK1 hNb wn
    go_loopw [4, 5] (fun bv iv wr => ∃ (k : Nat) (pb : Option Addr) (cb : Nat), k ≤ nl ∧ bv = .slice pb (4 + 12 * k) cb ∧ iv = .int .i64 k ∧ Hid (OwnB w2 wr (.slice pb (4 + 12 * k) cb) (be 4 nl ++ linksB (links.take k)) ∧ Keeps (fun _ => False) w2 wr)) (fun _ iv _ => nl - (intOf iv).toNat)
    case atStart => exact ⟨0, pa, ca, by omega, rfl, rfl, hN1'⟩
    case round =>
      obtain ⟨k, pb, cb, hk, rfl, rfl, hinv⟩ := hrel
      have a5 := rangeAt_cell (hinv.out.2.rangeAt hB2.out (fun f => f)) 5 (.slice p5 nl c5) (by rw [← hnl'.out]; rfl)
      by_cases hkn : k < nl
      · have hkni : (k : Int) < nl := by omega
        obtain ⟨g5, o5, rfl, hrows⟩ := (show ∃ g o, p5 = some ⟨g, o, none⟩ ∧ ∀ i l, links[i]? = some l → w2.rangeAt g (o + i * 4) (linkVals l) from by
          obtain ⟨p', c', e, -, -, hrr⟩ := hl2.out
          injection e with e1 e2 e3
          subst e1
          exact hrr (by rw [hnl'.out]; omega))
        obtain ⟨l, hll⟩ : ∃ l, links[k]? = some l := ⟨_, List.getElem?_eq_getElem (by rw [hnl'.out]; exact hkn)⟩
        have hlo := hlok.out l (List.mem_of_getElem? hll)
        have hrow := Lib.hid ((hinv.out.2.rangeAt (hrows k l hll) (fun f => f)))
        have htk0 : linksB (links.take (k + 1)) = linksB (links.take k) ++ linkB l := by
          obtain ⟨hk2, e⟩ := List.getElem?_eq_some_iff.1 hll
          rw [List.take_succ_eq_append_getElem hk2, e, linksB_snoc]
        obtain ⟨lid', ldata, ltype, lcost⟩ := l
        obtain ⟨hl1, hl2', hl3, hl4⟩ := hlo
        simp only at hl1 hl2' hl3 hl4
        obtain ⟨T8, hT8, lT8, hT8l⟩ := u8_nat ltype
        obtain ⟨UC, hUC, lUC, hUCl⟩ := u64_nat lcost
        have wid : IntKind.u64.wrap (lid' : Int) = (lid' : Int) := IntWalk.u64_in _ (by omega)
        have wdata : IntKind.u64.wrap (ldata : Int) = (ldata : Int) := IntWalk.u64_in _ (by omega)
        obtain ⟨X1, hX1⟩ : ∃ X1, be 4 nl ++ linksB (links.take k) = X1 := ⟨_, rfl⟩
        have hX1l : Hid (X1.length = 4 + 12 * k) := Lib.hid (by rw [← hX1, List.length_append, be_len, linksB_len, List.length_take, hnl'.out]; omega)
        have htk : Hid (be 4 nl ++ linksB (links.take (k + 1)) = X1 ++ (be 4 lid' ++ (be 4 ldata ++ ([UInt8.ofNat T8, 0] ++ be 2 UC)))) := Lib.hid (by
          rw [htk0, ← hX1]
          unfold linkB
          simp only [List.append_assoc]
          rw [hT8l.out, be_mod 2 (lo16 lcost) UC (by rw [← hUCl.out]; unfold lo16 lo64; omega)])
        rw [hX1] at hinv
        have hXk : Keeps (fun _ => False) wr (wr.alloc (.cells #[.int .u32 lid', .int .u32 ldata, .int .i64 ltype, .int .i64 lcost] 91)) := (Keeps.refl _ _).alloc _
        have hS0 : Hid (Keeps (fun _ => False) w2 (wr.alloc (.cells #[.int .u32 lid', .int .u32 ldata, .int .i64 ltype, .int .i64 lcost] 91)) ∧ (wr.alloc (.cells #[.int .u32 lid', .int .u32 ldata, .int .i64 ltype, .int .i64 lcost] 91)).rangeAt wr.heap.size 0 [.int .u32 lid', .int .u32 ldata, .int .i64 ltype, .int .i64 lcost]) := Lib.hid ⟨hinv.out.2.alloc _, new_rangeb wr [.int .u32 lid', .int .u32 ldata, .int .i64 ltype, .int .i64 lcost] 91⟩
        have hO : Hid (OwnB w2 (wr.alloc (.cells #[.int .u32 lid', .int .u32 ldata, .int .i64 ltype, .int .i64 lcost] 91)) (.slice pb (4 + 12 * k) cb) X1) := Lib.hid (hinv.out.1.keep hXk (fun _ _ f => f))
        obtain ⟨XB, hXB⟩ : ∃ XB, XB = wr.heap.size := ⟨_, rfl⟩
        have hNX : Hid (∀ i, (Value.slice pb (4 + 12 * k) cb).ownBlock = some i → i ≠ XB) := Lib.hid (fun i e => by have := hinv.out.1.lt i e; omega)
        obtain ⟨wX, hwX⟩ : ∃ wX, wX = wr.alloc (.cells #[.int .u32 lid', .int .u32 ldata, .int .i64 ltype, .int .i64 lcost] 91) := ⟨_, rfl⟩
        rw [← hwX] at hS0 hO
        rw [← hXB] at hS0
        have hwX' := Lib.hid hwX; have hXB' := Lib.hid hXB
        have hl1h := Lib.hid hl1; have hl2h := Lib.hid hl2'
        clear hX1 hrows hll htk0 hXk hwX hXB hl1 hl2' hl3 hl4
        go_upto_region 11 with (first | ((with_reducible refine at_slot 38 ?_); refine wpList_load_mid rfl 91 (.tmp 37) rfl g5 (o5 + k * 4) rfl [.int .u32 lid', .int .u32 ldata, .int .i64 ltype, .int .i64 lcost] _ hrow.out Try.underlying91 rfl r10LinkInfo ?_) | ((with_reducible refine at_store 6 ?_); refine wpList_store_new rfl 91 (.tmp 6) (.tmp 38) rfl _ _ rfl rfl r10LinkInfo rfl (link_one _ _ _ _) ?_))
        rw [← hwX'.out, ← hXB'.out]
        clear hwX' hXB' a5 hinv hrow
        refine wp_region_noPanic ?_
        refine wp_region_held_drew (S := (fun W => Keeps (fun _ => False) w2 W ∧ W.rangeAt XB 0 [.int .u32 lid', .int .u32 ldata, .int .i64 ltype, .int .i64 lcost])) (by kernel_rfl) (⟨hS0.out.1.drew, hS0.out.2⟩) (fun hHeld => ?_)
        refine tk 0 rfl ?_
        refine tk 1 rfl ?_
        refine tkL 2 rfl (yieldsIf_load_cell (by rfl) 23 (.tmp 40) rfl XB 0 rfl _ (fun _ s => rangeAt_cell s.2 0 (.int .u32 lid') rfl) (fun w s => load_u32 w _ _ _ s)) ?_
        refine tk 3 rfl ?_
        refine tk 6 rfl ?_
        refine tkL 7 rfl (yieldsIf_load_cell (by rfl) 23 (.tmp 45) rfl XB 1 rfl _ (fun _ s => rangeAt_cell s.2 1 (.int .u32 ldata) rfl) (fun w s => load_u32 w _ _ _ s)) ?_
        refine tk 8 rfl ?_
        refine tk 11 rfl ?_
        refine tkL 12 rfl (yieldsIf_load_cell (by rfl) 3 (.tmp 50) rfl XB 2 rfl _ (fun _ s => rangeAt_cell s.2 2 (.int .i64 ltype) rfl) (fun w s => load_int w _ _ _ s)) ?_
        refine tk 13 rfl ?_
        refine tk 16 rfl ?_
        refine tkL 17 rfl (yieldsIf_load_cell (by rfl) 3 (.tmp 55) rfl XB 3 rfl _ (fun _ s => rangeAt_cell s.2 3 (.int .i64 lcost) rfl) (fun w s => load_int w _ _ _ s)) ?_
        refine tk 18 rfl ?_
        have hO := Lib.hid (hO.out.keep ((Keeps.refl (fun _ => False) wX).drew) (fun _ _ f => f))
        obtain ⟨W0, hW0⟩ : ∃ W0, W0 = wX.drew := ⟨_, rfl⟩
        rw [← hW0] at hO hHeld ⊢
        clear hW0 hS0
        refine step2L 4 14 rfl rfl (by kernel_rfl) (fun K hK => ?_) (fun K hK => ?_)
        · go_simp
          refine (r10num_any lid' 4 (Nat.lt_trans hl1h.out (by decide)) (by omega) _).mono ?_
          rintro e Wc0 ⟨pn, cn, rfl, hN, hkn⟩
          go_wp2_with fail
          refine hK.out _ _ (⟨hHeld.1.trans hkn, hkn.rangeAt hHeld.2 (fun f => f)⟩) (fun hHeld => ?_)
          clear hK K
          try simp only [Act.put, sA, sZ, sS]
          have hO := Lib.hid (hO.out.keep hkn (fun _ _ f => f))
          have hNb := Lib.hid hN.bytes
          clear hN hkn
          refine step2L 5 14 rfl rfl (by kernel_rfl) (fun K hK => ?_) (fun K hK => ?_)
          · rw [if_pos (by rfl)]
            refine wp_append_b (.tmp 39) (.tmp 43) 71 rfl i0 Try.underlying71 hi0 hz0 hz1 hz2 w2 _ X1 rfl hO.out _ rfl (be 4 lid') hNb.out (by rw [hX1l.out]; simp [be_len]; omega) ?_
            intro pd cd Wd1 hOd hGd
            refine hK.out _ _ (⟨hHeld.1.trans' hGd.k (fun i e => .inr (hO.out.2.1 i e)), hGd.range hNX.out hHeld.2⟩) (fun hHeld2 => ?_)
            clear hK K
            try simp only [Act.put, sA, sZ, sS]
            have hNX := Lib.hid (hGd.ne hNX.out (range_lt hHeld.2))
            obtain ⟨X2, hX2⟩ : ∃ X, X = X1 ++ (be 4 lid') := ⟨_, rfl⟩
            have hX2l : Hid (X2.length = 4 + 12 * k + 4) := Lib.hid (by rw [hX2, List.length_append, hX1l.out]; simp [be_len]; try omega)
            have hlen : X1.length + (be 4 lid').length = 4 + 12 * k + 4 := by rw [hX1l.out]; simp [be_len]; try omega
            rw [← hX2, hlen] at hOd
            rw [hlen] at hNX ⊢
            have hO := Lib.hid hOd
            have hX2' := Lib.hid hX2
            have hHeld := hHeld2
            clear hOd hGd hHeld2 hlen hX2
            refine step2L 9 14 rfl rfl (by kernel_rfl) (fun K hK => ?_) (fun K hK => ?_)
            · go_simp
              refine (r10num_any ldata 4 (Nat.lt_trans hl2h.out (by decide)) (by omega) _).mono ?_
              rintro e Wc2 ⟨pn, cn, rfl, hN, hkn⟩
              go_wp2_with fail
              refine hK.out _ _ (⟨hHeld.1.trans hkn, hkn.rangeAt hHeld.2 (fun f => f)⟩) (fun hHeld => ?_)
              clear hK K
              try simp only [Act.put, sA, sZ, sS]
              have hO := Lib.hid (hO.out.keep hkn (fun _ _ f => f))
              have hNb := Lib.hid hN.bytes
              clear hN hkn
              refine step2L 10 14 rfl rfl (by kernel_rfl) (fun K hK => ?_) (fun K hK => ?_)
              · rw [if_pos (by rfl)]
                refine wp_append_b (.tmp 44) (.tmp 48) 71 rfl i0 Try.underlying71 hi0 hz0 hz1 hz2 w2 _ X2 rfl hO.out _ rfl (be 4 ldata) hNb.out (by rw [hX2l.out]; simp [be_len]; omega) ?_
                intro pd cd Wd3 hOd hGd
                refine hK.out _ _ (⟨hHeld.1.trans' hGd.k (fun i e => .inr (hO.out.2.1 i e)), hGd.range hNX.out hHeld.2⟩) (fun hHeld2 => ?_)
                clear hK K
                try simp only [Act.put, sA, sZ, sS]
                have hNX := Lib.hid (hGd.ne hNX.out (range_lt hHeld.2))
                obtain ⟨X3, hX3⟩ : ∃ X, X = X2 ++ (be 4 ldata) := ⟨_, rfl⟩
                have hX3l : Hid (X3.length = 4 + 12 * k + 8) := Lib.hid (by rw [hX3, List.length_append, hX2l.out]; simp [be_len]; try omega)
                have hlen : X2.length + (be 4 ldata).length = 4 + 12 * k + 8 := by rw [hX2l.out]; simp [be_len]; try omega
                rw [← hX3, hlen] at hOd
                rw [hlen] at hNX ⊢
                have hO := Lib.hid hOd
                have hX3' := Lib.hid hX3
                have hHeld := hHeld2
                clear hOd hGd hHeld2 hlen hX3
                refine stepL 14 rfl (by kernel_rfl) (fun K hK => ?_)
                go_simp
                refine hK.out _ _ (⟨hHeld.1.alloc _, ((Keeps.refl (fun _ => False) _).alloc _).rangeAt hHeld.2 (fun f => f)⟩) (fun hHeld => ?_)
                clear hK K
                try simp only [Act.put, sA, sZ, sS]
                have hSB : Hid (BytesAt (Wd3.alloc (.cells #[.int .u8 (T8 : Nat), .int .u8 0] 5)) (.slice (some ⟨Wd3.heap.size, 0, none⟩) 2 2) [UInt8.ofNat T8, 0]) := Lib.hid (by have := (OwnB.new Wd3 Wd3 (Nat.le_refl _) [UInt8.ofNat T8, 0] (n := 2) rfl (by unfold maxLen; omega)).bytes; rw [List.map_cons, List.map_cons, List.map_nil, bv_lt T8 lT8] at this; exact this)
                obtain ⟨G, hG⟩ : ∃ G, G = Wd3.heap.size := ⟨_, rfl⟩
                have hNE := Lib.hid (fun k e => show k ≠ G by have := hO.out.lt k e; omega)
                have hGlt : Hid (G < (Wd3.alloc (.cells #[.int .u8 (T8 : Nat), .int .u8 0] 5)).heap.size) := Lib.hid (by rw [hG]; simp)
                have hO := Lib.hid (hO.out.keep ((Keeps.refl (fun _ => False) Wd3).alloc (.cells #[.int .u8 (T8 : Nat), .int .u8 0] 5)) (fun _ _ f => f))
                rw [← hG] at hSB ⊢
                obtain ⟨Wd3s, hWd3s⟩ : ∃ Wz, Wz = Wd3.alloc (.cells #[.int .u8 (T8 : Nat), .int .u8 0] 5) := ⟨_, rfl⟩
                rw [← hWd3s] at hO hSB hHeld hGlt ⊢
                clear hWd3s hG
                refine stepL 15 rfl (by kernel_rfl) (fun K hK => ?_)
                rw [if_pos (by rfl)]
                refine wp_append_b (.tmp 49) (.tmp 53) 71 rfl i0 Try.underlying71 hi0 hz0 hz1 hz2 w2 _ X3 rfl hO.out _ rfl ([UInt8.ofNat T8, 0]) hSB.out (by rw [hX3l.out]; simp [be_len]; omega) ?_
                intro pd cd Wd4 hOd hGd
                refine hK.out _ _ (⟨hHeld.1.trans' hGd.k (fun i e => .inr (hO.out.2.1 i e)), hGd.range hNX.out hHeld.2⟩) (fun hHeld2 => ?_)
                clear hK K
                try simp only [Act.put, sA, sZ, sS]
                have hNX := Lib.hid (hGd.ne hNX.out (range_lt hHeld.2))
                obtain ⟨X4, hX4⟩ : ∃ X, X = X3 ++ [UInt8.ofNat T8, 0] := ⟨_, rfl⟩
                have hX4l : Hid (X4.length = 4 + 12 * k + 10) := Lib.hid (by rw [hX4, List.length_append, hX3l.out]; simp [be_len]; try omega)
                have hlen : X3.length + ([UInt8.ofNat T8, 0]).length = 4 + 12 * k + 10 := by rw [hX3l.out]; simp [be_len]; try omega
                rw [← hX4, hlen] at hOd
                rw [hlen] at hNX ⊢
                have hO := Lib.hid hOd
                have hX4' := Lib.hid hX4
                have hHeld := hHeld2
                clear hOd hGd hHeld2 hlen hX4 hSB hNE hGlt
                refine stepL 19 rfl (by kernel_rfl) (fun K hK => ?_)
                go_simp
                refine (r10num_any UC 2 lUC (by omega) _).mono ?_
                rintro e Wc5 ⟨pn, cn, rfl, hN, hkn⟩
                go_wp2_with fail
                refine hK.out _ _ (⟨hHeld.1.trans hkn, hkn.rangeAt hHeld.2 (fun f => f)⟩) (fun hHeld => ?_)
                clear hK K
                try simp only [Act.put, sA, sZ, sS]
                have hO := Lib.hid (hO.out.keep hkn (fun _ _ f => f))
                have hNb := Lib.hid hN.bytes
                clear hN hkn
                refine stepL 20 rfl (by kernel_rfl) (fun K hK => ?_)
                rw [if_pos (by rfl)]
                refine wp_append_b (.tmp 54) (.tmp 58) 71 rfl i0 Try.underlying71 hi0 hz0 hz1 hz2 w2 _ X4 rfl hO.out _ rfl (be 2 UC) hNb.out (by rw [hX4l.out]; simp [be_len]; omega) ?_
                intro pd cd Wd6 hOd hGd
                refine hK.out _ _ (⟨hHeld.1.trans' hGd.k (fun i e => .inr (hO.out.2.1 i e)), hGd.range hNX.out hHeld.2⟩) (fun hHeld2 => ?_)
                clear hK K
                try simp only [Act.put, sA, sZ, sS]
                have hNX := Lib.hid (hGd.ne hNX.out (range_lt hHeld.2))
                obtain ⟨X5, hX5⟩ : ∃ X, X = X4 ++ (be 2 UC) := ⟨_, rfl⟩
                have hX5l : Hid (X5.length = 4 + 12 * k + 12) := Lib.hid (by rw [hX5, List.length_append, hX4l.out]; simp [be_len]; try omega)
                have hlen : X4.length + (be 2 UC).length = 4 + 12 * k + 12 := by rw [hX4l.out]; simp [be_len]; try omega
                rw [← hX5, hlen] at hOd
                rw [hlen] at hNX ⊢
                have hO := Lib.hid hOd
                have hX5' := Lib.hid hX5
                have hHeld := hHeld2
                clear hOd hGd hHeld2 hlen hX5
                refine tk 21 rfl ?_
                refine wpAnyH_done (by kernel_rfl) (NoPanic.normal ?_) _
                have hnew : Hid (OwnB w2 Wd6 (.slice pd (4 + 12 * k + 12) cd) (be 4 nl ++ linksB (links.take (k + 1))) ∧ Keeps (fun _ => False) w2 Wd6) := Lib.hid ⟨by rw [htk.out]; have := hO.out; rw [hX5'.out, hX4'.out, hX3'.out, hX2'.out] at this; simp only [List.append_assoc] at this; exact this, hHeld.1⟩
                clear hHeld hO
                go_wp2_with fail
                exact ⟨⟨k + 1, pd, cd, by omega, by rw [show 4 + 12 * (k + 1) = 4 + 12 * k + 12 by omega], by go_num, by rw [show 4 + 12 * (k + 1) = 4 + 12 * k + 12 by omega]; exact hnew⟩, by simp [intOf]; omega⟩
              · go_simp
                refine hK.out _ _ (⟨hHeld.1.alloc _, ((Keeps.refl (fun _ => False) _).alloc _).rangeAt hHeld.2 (fun f => f)⟩) (fun hHeld => ?_)
                clear hK K
                try simp only [Act.put, sA, sZ, sS]
                have hSB : Hid (BytesAt (Wc2.alloc (.cells #[.int .u8 (T8 : Nat), .int .u8 0] 5)) (.slice (some ⟨Wc2.heap.size, 0, none⟩) 2 2) [UInt8.ofNat T8, 0]) := Lib.hid (by have := (OwnB.new Wc2 Wc2 (Nat.le_refl _) [UInt8.ofNat T8, 0] (n := 2) rfl (by unfold maxLen; omega)).bytes; rw [List.map_cons, List.map_cons, List.map_nil, bv_lt T8 lT8] at this; exact this)
                obtain ⟨G, hG⟩ : ∃ G, G = Wc2.heap.size := ⟨_, rfl⟩
                have hNE := Lib.hid (fun k e => show k ≠ G by have := hO.out.lt k e; omega)
                have hGlt : Hid (G < (Wc2.alloc (.cells #[.int .u8 (T8 : Nat), .int .u8 0] 5)).heap.size) := Lib.hid (by rw [hG]; simp)
                have hO := Lib.hid (hO.out.keep ((Keeps.refl (fun _ => False) Wc2).alloc (.cells #[.int .u8 (T8 : Nat), .int .u8 0] 5)) (fun _ _ f => f))
                have hNb := Lib.hid (hNb.out.keep ((Keeps.refl (fun _ => False) Wc2).alloc (.cells #[.int .u8 (T8 : Nat), .int .u8 0] 5)))
                rw [← hG] at hSB ⊢
                obtain ⟨Wc2s, hWc2s⟩ : ∃ Wz, Wz = Wc2.alloc (.cells #[.int .u8 (T8 : Nat), .int .u8 0] 5) := ⟨_, rfl⟩
                rw [← hWc2s] at hO hSB hHeld hGlt hNb ⊢
                clear hWc2s hG
                refine stepL 10 rfl (by kernel_rfl) (fun K hK => ?_)
                rw [if_pos (by rfl)]
                refine wp_append_b (.tmp 44) (.tmp 48) 71 rfl i0 Try.underlying71 hi0 hz0 hz1 hz2 w2 _ X2 rfl hO.out _ rfl (be 4 ldata) hNb.out (by rw [hX2l.out]; simp [be_len]; omega) ?_
                intro pd cd Wd3 hOd hGd
                refine hK.out _ _ (⟨hHeld.1.trans' hGd.k (fun i e => .inr (hO.out.2.1 i e)), hGd.range hNX.out hHeld.2⟩) (fun hHeld2 => ?_)
                clear hK K
                try simp only [Act.put, sA, sZ, sS]
                have hNX := Lib.hid (hGd.ne hNX.out (range_lt hHeld.2))
                have hSB := Lib.hid (hSB.out.keepF hGd.k (fun _ i e f => hNE.out i f (by have e : some G = some i := e; injection e with e; exact e.symm)))
                have hNE := Lib.hid (hGd.ne hNE.out hGlt.out)
                have hGlt : Hid (G < Wd3.heap.size) := Lib.hid (Nat.lt_of_lt_of_le hGlt.out hGd.k.size)
                obtain ⟨X3, hX3⟩ : ∃ X, X = X2 ++ (be 4 ldata) := ⟨_, rfl⟩
                have hX3l : Hid (X3.length = 4 + 12 * k + 8) := Lib.hid (by rw [hX3, List.length_append, hX2l.out]; simp [be_len]; try omega)
                have hlen : X2.length + (be 4 ldata).length = 4 + 12 * k + 8 := by rw [hX2l.out]; simp [be_len]; try omega
                rw [← hX3, hlen] at hOd
                rw [hlen] at hNX hNE ⊢
                have hO := Lib.hid hOd
                have hX3' := Lib.hid hX3
                have hHeld := hHeld2
                clear hOd hGd hHeld2 hlen hX3
                refine stepL 15 rfl (by kernel_rfl) (fun K hK => ?_)
                rw [if_pos (by rfl)]
                refine wp_append_b (.tmp 49) (.tmp 53) 71 rfl i0 Try.underlying71 hi0 hz0 hz1 hz2 w2 _ X3 rfl hO.out _ rfl ([UInt8.ofNat T8, 0]) hSB.out (by rw [hX3l.out]; simp [be_len]; omega) ?_
                intro pd cd Wd4 hOd hGd
                refine hK.out _ _ (⟨hHeld.1.trans' hGd.k (fun i e => .inr (hO.out.2.1 i e)), hGd.range hNX.out hHeld.2⟩) (fun hHeld2 => ?_)
                clear hK K
                try simp only [Act.put, sA, sZ, sS]
                have hNX := Lib.hid (hGd.ne hNX.out (range_lt hHeld.2))
                obtain ⟨X4, hX4⟩ : ∃ X, X = X3 ++ [UInt8.ofNat T8, 0] := ⟨_, rfl⟩
                have hX4l : Hid (X4.length = 4 + 12 * k + 10) := Lib.hid (by rw [hX4, List.length_append, hX3l.out]; simp [be_len]; try omega)
                have hlen : X3.length + ([UInt8.ofNat T8, 0]).length = 4 + 12 * k + 10 := by rw [hX3l.out]; simp [be_len]; try omega
                rw [← hX4, hlen] at hOd
                rw [hlen] at hNX ⊢
                have hO := Lib.hid hOd
                have hX4' := Lib.hid hX4
                have hHeld := hHeld2
                clear hOd hGd hHeld2 hlen hX4 hSB hNE hGlt
                refine stepL 19 rfl (by kernel_rfl) (fun K hK => ?_)
                go_simp
                refine (r10num_any UC 2 lUC (by omega) _).mono ?_
                rintro e Wc5 ⟨pn, cn, rfl, hN, hkn⟩
                go_wp2_with fail
                refine hK.out _ _ (⟨hHeld.1.trans hkn, hkn.rangeAt hHeld.2 (fun f => f)⟩) (fun hHeld => ?_)
                clear hK K
                try simp only [Act.put, sA, sZ, sS]
                have hO := Lib.hid (hO.out.keep hkn (fun _ _ f => f))
                have hNb := Lib.hid hN.bytes
                clear hN hkn
                refine stepL 20 rfl (by kernel_rfl) (fun K hK => ?_)
                rw [if_pos (by rfl)]
                refine wp_append_b (.tmp 54) (.tmp 58) 71 rfl i0 Try.underlying71 hi0 hz0 hz1 hz2 w2 _ X4 rfl hO.out _ rfl (be 2 UC) hNb.out (by rw [hX4l.out]; simp [be_len]; omega) ?_
                intro pd cd Wd6 hOd hGd
                refine hK.out _ _ (⟨hHeld.1.trans' hGd.k (fun i e => .inr (hO.out.2.1 i e)), hGd.range hNX.out hHeld.2⟩) (fun hHeld2 => ?_)
                clear hK K
                try simp only [Act.put, sA, sZ, sS]
                have hNX := Lib.hid (hGd.ne hNX.out (range_lt hHeld.2))
                obtain ⟨X5, hX5⟩ : ∃ X, X = X4 ++ (be 2 UC) := ⟨_, rfl⟩
                have hX5l : Hid (X5.length = 4 + 12 * k + 12) := Lib.hid (by rw [hX5, List.length_append, hX4l.out]; simp [be_len]; try omega)
                have hlen : X4.length + (be 2 UC).length = 4 + 12 * k + 12 := by rw [hX4l.out]; simp [be_len]; try omega
                rw [← hX5, hlen] at hOd
                rw [hlen] at hNX ⊢
                have hO := Lib.hid hOd
                have hX5' := Lib.hid hX5
                have hHeld := hHeld2
                clear hOd hGd hHeld2 hlen hX5
                refine tk 21 rfl ?_
                refine wpAnyH_done (by kernel_rfl) (NoPanic.normal ?_) _
                have hnew : Hid (OwnB w2 Wd6 (.slice pd (4 + 12 * k + 12) cd) (be 4 nl ++ linksB (links.take (k + 1))) ∧ Keeps (fun _ => False) w2 Wd6) := Lib.hid ⟨by rw [htk.out]; have := hO.out; rw [hX5'.out, hX4'.out, hX3'.out, hX2'.out] at this; simp only [List.append_assoc] at this; exact this, hHeld.1⟩
                clear hHeld hO
                go_wp2_with fail
                exact ⟨⟨k + 1, pd, cd, by omega, by rw [show 4 + 12 * (k + 1) = 4 + 12 * k + 12 by omega], by go_num, by rw [show 4 + 12 * (k + 1) = 4 + 12 * k + 12 by omega]; exact hnew⟩, by simp [intOf]; omega⟩
            · go_simp
              refine hK.out _ _ (⟨hHeld.1.alloc _, ((Keeps.refl (fun _ => False) _).alloc _).rangeAt hHeld.2 (fun f => f)⟩) (fun hHeld => ?_)
              clear hK K
              try simp only [Act.put, sA, sZ, sS]
              have hSB : Hid (BytesAt (Wd1.alloc (.cells #[.int .u8 (T8 : Nat), .int .u8 0] 5)) (.slice (some ⟨Wd1.heap.size, 0, none⟩) 2 2) [UInt8.ofNat T8, 0]) := Lib.hid (by have := (OwnB.new Wd1 Wd1 (Nat.le_refl _) [UInt8.ofNat T8, 0] (n := 2) rfl (by unfold maxLen; omega)).bytes; rw [List.map_cons, List.map_cons, List.map_nil, bv_lt T8 lT8] at this; exact this)
              obtain ⟨G, hG⟩ : ∃ G, G = Wd1.heap.size := ⟨_, rfl⟩
              have hNE := Lib.hid (fun k e => show k ≠ G by have := hO.out.lt k e; omega)
              have hGlt : Hid (G < (Wd1.alloc (.cells #[.int .u8 (T8 : Nat), .int .u8 0] 5)).heap.size) := Lib.hid (by rw [hG]; simp)
              have hO := Lib.hid (hO.out.keep ((Keeps.refl (fun _ => False) Wd1).alloc (.cells #[.int .u8 (T8 : Nat), .int .u8 0] 5)) (fun _ _ f => f))
              rw [← hG] at hSB ⊢
              obtain ⟨Wd1s, hWd1s⟩ : ∃ Wz, Wz = Wd1.alloc (.cells #[.int .u8 (T8 : Nat), .int .u8 0] 5) := ⟨_, rfl⟩
              rw [← hWd1s] at hO hSB hHeld hGlt ⊢
              clear hWd1s hG
              refine stepL 9 rfl (by kernel_rfl) (fun K hK => ?_)
              go_simp
              refine (r10num_any ldata 4 (Nat.lt_trans hl2h.out (by decide)) (by omega) _).mono ?_
              rintro e Wc2 ⟨pn, cn, rfl, hN, hkn⟩
              go_wp2_with fail
              refine hK.out _ _ (⟨hHeld.1.trans hkn, hkn.rangeAt hHeld.2 (fun f => f)⟩) (fun hHeld => ?_)
              clear hK K
              try simp only [Act.put, sA, sZ, sS]
              have hO := Lib.hid (hO.out.keep hkn (fun _ _ f => f))
              have hNb := Lib.hid hN.bytes
              have hSB := Lib.hid (hSB.out.keep hkn)
              have hGlt : Hid (G < Wc2.heap.size) := Lib.hid (Nat.lt_of_lt_of_le hGlt.out hkn.size)
              clear hN hkn
              refine stepL 10 rfl (by kernel_rfl) (fun K hK => ?_)
              rw [if_pos (by rfl)]
              refine wp_append_b (.tmp 44) (.tmp 48) 71 rfl i0 Try.underlying71 hi0 hz0 hz1 hz2 w2 _ X2 rfl hO.out _ rfl (be 4 ldata) hNb.out (by rw [hX2l.out]; simp [be_len]; omega) ?_
              intro pd cd Wd3 hOd hGd
              refine hK.out _ _ (⟨hHeld.1.trans' hGd.k (fun i e => .inr (hO.out.2.1 i e)), hGd.range hNX.out hHeld.2⟩) (fun hHeld2 => ?_)
              clear hK K
              try simp only [Act.put, sA, sZ, sS]
              have hNX := Lib.hid (hGd.ne hNX.out (range_lt hHeld.2))
              have hSB := Lib.hid (hSB.out.keepF hGd.k (fun _ i e f => hNE.out i f (by have e : some G = some i := e; injection e with e; exact e.symm)))
              have hNE := Lib.hid (hGd.ne hNE.out hGlt.out)
              have hGlt : Hid (G < Wd3.heap.size) := Lib.hid (Nat.lt_of_lt_of_le hGlt.out hGd.k.size)
              obtain ⟨X3, hX3⟩ : ∃ X, X = X2 ++ (be 4 ldata) := ⟨_, rfl⟩
              have hX3l : Hid (X3.length = 4 + 12 * k + 8) := Lib.hid (by rw [hX3, List.length_append, hX2l.out]; simp [be_len]; try omega)
              have hlen : X2.length + (be 4 ldata).length = 4 + 12 * k + 8 := by rw [hX2l.out]; simp [be_len]; try omega
              rw [← hX3, hlen] at hOd
              rw [hlen] at hNX hNE ⊢
              have hO := Lib.hid hOd
              have hX3' := Lib.hid hX3
              have hHeld := hHeld2
              clear hOd hGd hHeld2 hlen hX3
              refine stepL 15 rfl (by kernel_rfl) (fun K hK => ?_)
              rw [if_pos (by rfl)]
              refine wp_append_b (.tmp 49) (.tmp 53) 71 rfl i0 Try.underlying71 hi0 hz0 hz1 hz2 w2 _ X3 rfl hO.out _ rfl ([UInt8.ofNat T8, 0]) hSB.out (by rw [hX3l.out]; simp [be_len]; omega) ?_
              intro pd cd Wd4 hOd hGd
              refine hK.out _ _ (⟨hHeld.1.trans' hGd.k (fun i e => .inr (hO.out.2.1 i e)), hGd.range hNX.out hHeld.2⟩) (fun hHeld2 => ?_)
              clear hK K
              try simp only [Act.put, sA, sZ, sS]
              have hNX := Lib.hid (hGd.ne hNX.out (range_lt hHeld.2))
              obtain ⟨X4, hX4⟩ : ∃ X, X = X3 ++ [UInt8.ofNat T8, 0] := ⟨_, rfl⟩
              have hX4l : Hid (X4.length = 4 + 12 * k + 10) := Lib.hid (by rw [hX4, List.length_append, hX3l.out]; simp [be_len]; try omega)
              have hlen : X3.length + ([UInt8.ofNat T8, 0]).length = 4 + 12 * k + 10 := by rw [hX3l.out]; simp [be_len]; try omega
              rw [← hX4, hlen] at hOd
              rw [hlen] at hNX ⊢
              have hO := Lib.hid hOd
              have hX4' := Lib.hid hX4
              have hHeld := hHeld2
              clear hOd hGd hHeld2 hlen hX4 hSB hNE hGlt
              refine stepL 19 rfl (by kernel_rfl) (fun K hK => ?_)
              go_simp
              refine (r10num_any UC 2 lUC (by omega) _).mono ?_
              rintro e Wc5 ⟨pn, cn, rfl, hN, hkn⟩
              go_wp2_with fail
              refine hK.out _ _ (⟨hHeld.1.trans hkn, hkn.rangeAt hHeld.2 (fun f => f)⟩) (fun hHeld => ?_)
              clear hK K
              try simp only [Act.put, sA, sZ, sS]
              have hO := Lib.hid (hO.out.keep hkn (fun _ _ f => f))
              have hNb := Lib.hid hN.bytes
              clear hN hkn
              refine stepL 20 rfl (by kernel_rfl) (fun K hK => ?_)
              rw [if_pos (by rfl)]
              refine wp_append_b (.tmp 54) (.tmp 58) 71 rfl i0 Try.underlying71 hi0 hz0 hz1 hz2 w2 _ X4 rfl hO.out _ rfl (be 2 UC) hNb.out (by rw [hX4l.out]; simp [be_len]; omega) ?_
              intro pd cd Wd6 hOd hGd
              refine hK.out _ _ (⟨hHeld.1.trans' hGd.k (fun i e => .inr (hO.out.2.1 i e)), hGd.range hNX.out hHeld.2⟩) (fun hHeld2 => ?_)
              clear hK K
              try simp only [Act.put, sA, sZ, sS]
              have hNX := Lib.hid (hGd.ne hNX.out (range_lt hHeld.2))
              obtain ⟨X5, hX5⟩ : ∃ X, X = X4 ++ (be 2 UC) := ⟨_, rfl⟩
              have hX5l : Hid (X5.length = 4 + 12 * k + 12) := Lib.hid (by rw [hX5, List.length_append, hX4l.out]; simp [be_len]; try omega)
              have hlen : X4.length + (be 2 UC).length = 4 + 12 * k + 12 := by rw [hX4l.out]; simp [be_len]; try omega
              rw [← hX5, hlen] at hOd
              rw [hlen] at hNX ⊢
              have hO := Lib.hid hOd
              have hX5' := Lib.hid hX5
              have hHeld := hHeld2
              clear hOd hGd hHeld2 hlen hX5
              refine tk 21 rfl ?_
              refine wpAnyH_done (by kernel_rfl) (NoPanic.normal ?_) _
              have hnew : Hid (OwnB w2 Wd6 (.slice pd (4 + 12 * k + 12) cd) (be 4 nl ++ linksB (links.take (k + 1))) ∧ Keeps (fun _ => False) w2 Wd6) := Lib.hid ⟨by rw [htk.out]; have := hO.out; rw [hX5'.out, hX4'.out, hX3'.out, hX2'.out] at this; simp only [List.append_assoc] at this; exact this, hHeld.1⟩
              clear hHeld hO
              go_wp2_with fail
              exact ⟨⟨k + 1, pd, cd, by omega, by rw [show 4 + 12 * (k + 1) = 4 + 12 * k + 12 by omega], by go_num, by rw [show 4 + 12 * (k + 1) = 4 + 12 * k + 12 by omega]; exact hnew⟩, by simp [intOf]; omega⟩
          · go_simp
            refine hK.out _ _ (⟨hHeld.1.alloc _, ((Keeps.refl (fun _ => False) _).alloc _).rangeAt hHeld.2 (fun f => f)⟩) (fun hHeld => ?_)
            clear hK K
            try simp only [Act.put, sA, sZ, sS]
            have hSB : Hid (BytesAt (Wc0.alloc (.cells #[.int .u8 (T8 : Nat), .int .u8 0] 5)) (.slice (some ⟨Wc0.heap.size, 0, none⟩) 2 2) [UInt8.ofNat T8, 0]) := Lib.hid (by have := (OwnB.new Wc0 Wc0 (Nat.le_refl _) [UInt8.ofNat T8, 0] (n := 2) rfl (by unfold maxLen; omega)).bytes; rw [List.map_cons, List.map_cons, List.map_nil, bv_lt T8 lT8] at this; exact this)
            obtain ⟨G, hG⟩ : ∃ G, G = Wc0.heap.size := ⟨_, rfl⟩
            have hNE := Lib.hid (fun k e => show k ≠ G by have := hO.out.lt k e; omega)
            have hGlt : Hid (G < (Wc0.alloc (.cells #[.int .u8 (T8 : Nat), .int .u8 0] 5)).heap.size) := Lib.hid (by rw [hG]; simp)
            have hO := Lib.hid (hO.out.keep ((Keeps.refl (fun _ => False) Wc0).alloc (.cells #[.int .u8 (T8 : Nat), .int .u8 0] 5)) (fun _ _ f => f))
            have hNb := Lib.hid (hNb.out.keep ((Keeps.refl (fun _ => False) Wc0).alloc (.cells #[.int .u8 (T8 : Nat), .int .u8 0] 5)))
            rw [← hG] at hSB ⊢
            obtain ⟨Wc0s, hWc0s⟩ : ∃ Wz, Wz = Wc0.alloc (.cells #[.int .u8 (T8 : Nat), .int .u8 0] 5) := ⟨_, rfl⟩
            rw [← hWc0s] at hO hSB hHeld hGlt hNb ⊢
            clear hWc0s hG
            refine stepL 5 rfl (by kernel_rfl) (fun K hK => ?_)
            rw [if_pos (by rfl)]
            refine wp_append_b (.tmp 39) (.tmp 43) 71 rfl i0 Try.underlying71 hi0 hz0 hz1 hz2 w2 _ X1 rfl hO.out _ rfl (be 4 lid') hNb.out (by rw [hX1l.out]; simp [be_len]; omega) ?_
            intro pd cd Wd1 hOd hGd
            refine hK.out _ _ (⟨hHeld.1.trans' hGd.k (fun i e => .inr (hO.out.2.1 i e)), hGd.range hNX.out hHeld.2⟩) (fun hHeld2 => ?_)
            clear hK K
            try simp only [Act.put, sA, sZ, sS]
            have hNX := Lib.hid (hGd.ne hNX.out (range_lt hHeld.2))
            have hSB := Lib.hid (hSB.out.keepF hGd.k (fun _ i e f => hNE.out i f (by have e : some G = some i := e; injection e with e; exact e.symm)))
            have hNE := Lib.hid (hGd.ne hNE.out hGlt.out)
            have hGlt : Hid (G < Wd1.heap.size) := Lib.hid (Nat.lt_of_lt_of_le hGlt.out hGd.k.size)
            obtain ⟨X2, hX2⟩ : ∃ X, X = X1 ++ (be 4 lid') := ⟨_, rfl⟩
            have hX2l : Hid (X2.length = 4 + 12 * k + 4) := Lib.hid (by rw [hX2, List.length_append, hX1l.out]; simp [be_len]; try omega)
            have hlen : X1.length + (be 4 lid').length = 4 + 12 * k + 4 := by rw [hX1l.out]; simp [be_len]; try omega
            rw [← hX2, hlen] at hOd
            rw [hlen] at hNX hNE ⊢
            have hO := Lib.hid hOd
            have hX2' := Lib.hid hX2
            have hHeld := hHeld2
            clear hOd hGd hHeld2 hlen hX2
            refine stepL 9 rfl (by kernel_rfl) (fun K hK => ?_)
            go_simp
            refine (r10num_any ldata 4 (Nat.lt_trans hl2h.out (by decide)) (by omega) _).mono ?_
            rintro e Wc2 ⟨pn, cn, rfl, hN, hkn⟩
            go_wp2_with fail
            refine hK.out _ _ (⟨hHeld.1.trans hkn, hkn.rangeAt hHeld.2 (fun f => f)⟩) (fun hHeld => ?_)
            clear hK K
            try simp only [Act.put, sA, sZ, sS]
            have hO := Lib.hid (hO.out.keep hkn (fun _ _ f => f))
            have hNb := Lib.hid hN.bytes
            have hSB := Lib.hid (hSB.out.keep hkn)
            have hGlt : Hid (G < Wc2.heap.size) := Lib.hid (Nat.lt_of_lt_of_le hGlt.out hkn.size)
            clear hN hkn
            refine stepL 10 rfl (by kernel_rfl) (fun K hK => ?_)
            rw [if_pos (by rfl)]
            refine wp_append_b (.tmp 44) (.tmp 48) 71 rfl i0 Try.underlying71 hi0 hz0 hz1 hz2 w2 _ X2 rfl hO.out _ rfl (be 4 ldata) hNb.out (by rw [hX2l.out]; simp [be_len]; omega) ?_
            intro pd cd Wd3 hOd hGd
            refine hK.out _ _ (⟨hHeld.1.trans' hGd.k (fun i e => .inr (hO.out.2.1 i e)), hGd.range hNX.out hHeld.2⟩) (fun hHeld2 => ?_)
            clear hK K
            try simp only [Act.put, sA, sZ, sS]
            have hNX := Lib.hid (hGd.ne hNX.out (range_lt hHeld.2))
            have hSB := Lib.hid (hSB.out.keepF hGd.k (fun _ i e f => hNE.out i f (by have e : some G = some i := e; injection e with e; exact e.symm)))
            have hNE := Lib.hid (hGd.ne hNE.out hGlt.out)
            have hGlt : Hid (G < Wd3.heap.size) := Lib.hid (Nat.lt_of_lt_of_le hGlt.out hGd.k.size)
            obtain ⟨X3, hX3⟩ : ∃ X, X = X2 ++ (be 4 ldata) := ⟨_, rfl⟩
            have hX3l : Hid (X3.length = 4 + 12 * k + 8) := Lib.hid (by rw [hX3, List.length_append, hX2l.out]; simp [be_len]; try omega)
            have hlen : X2.length + (be 4 ldata).length = 4 + 12 * k + 8 := by rw [hX2l.out]; simp [be_len]; try omega
            rw [← hX3, hlen] at hOd
            rw [hlen] at hNX hNE ⊢
            have hO := Lib.hid hOd
            have hX3' := Lib.hid hX3
            have hHeld := hHeld2
            clear hOd hGd hHeld2 hlen hX3
            refine stepL 15 rfl (by kernel_rfl) (fun K hK => ?_)
            rw [if_pos (by rfl)]
            refine wp_append_b (.tmp 49) (.tmp 53) 71 rfl i0 Try.underlying71 hi0 hz0 hz1 hz2 w2 _ X3 rfl hO.out _ rfl ([UInt8.ofNat T8, 0]) hSB.out (by rw [hX3l.out]; simp [be_len]; omega) ?_
            intro pd cd Wd4 hOd hGd
            refine hK.out _ _ (⟨hHeld.1.trans' hGd.k (fun i e => .inr (hO.out.2.1 i e)), hGd.range hNX.out hHeld.2⟩) (fun hHeld2 => ?_)
            clear hK K
            try simp only [Act.put, sA, sZ, sS]
            have hNX := Lib.hid (hGd.ne hNX.out (range_lt hHeld.2))
            obtain ⟨X4, hX4⟩ : ∃ X, X = X3 ++ [UInt8.ofNat T8, 0] := ⟨_, rfl⟩
            have hX4l : Hid (X4.length = 4 + 12 * k + 10) := Lib.hid (by rw [hX4, List.length_append, hX3l.out]; simp [be_len]; try omega)
            have hlen : X3.length + ([UInt8.ofNat T8, 0]).length = 4 + 12 * k + 10 := by rw [hX3l.out]; simp [be_len]; try omega
            rw [← hX4, hlen] at hOd
            rw [hlen] at hNX ⊢
            have hO := Lib.hid hOd
            have hX4' := Lib.hid hX4
            have hHeld := hHeld2
            clear hOd hGd hHeld2 hlen hX4 hSB hNE hGlt
            refine stepL 19 rfl (by kernel_rfl) (fun K hK => ?_)
            go_simp
            refine (r10num_any UC 2 lUC (by omega) _).mono ?_
            rintro e Wc5 ⟨pn, cn, rfl, hN, hkn⟩
            go_wp2_with fail
            refine hK.out _ _ (⟨hHeld.1.trans hkn, hkn.rangeAt hHeld.2 (fun f => f)⟩) (fun hHeld => ?_)
            clear hK K
            try simp only [Act.put, sA, sZ, sS]
            have hO := Lib.hid (hO.out.keep hkn (fun _ _ f => f))
            have hNb := Lib.hid hN.bytes
            clear hN hkn
            refine stepL 20 rfl (by kernel_rfl) (fun K hK => ?_)
            rw [if_pos (by rfl)]
            refine wp_append_b (.tmp 54) (.tmp 58) 71 rfl i0 Try.underlying71 hi0 hz0 hz1 hz2 w2 _ X4 rfl hO.out _ rfl (be 2 UC) hNb.out (by rw [hX4l.out]; simp [be_len]; omega) ?_
            intro pd cd Wd6 hOd hGd
            refine hK.out _ _ (⟨hHeld.1.trans' hGd.k (fun i e => .inr (hO.out.2.1 i e)), hGd.range hNX.out hHeld.2⟩) (fun hHeld2 => ?_)
            clear hK K
            try simp only [Act.put, sA, sZ, sS]
            have hNX := Lib.hid (hGd.ne hNX.out (range_lt hHeld.2))
            obtain ⟨X5, hX5⟩ : ∃ X, X = X4 ++ (be 2 UC) := ⟨_, rfl⟩
            have hX5l : Hid (X5.length = 4 + 12 * k + 12) := Lib.hid (by rw [hX5, List.length_append, hX4l.out]; simp [be_len]; try omega)
            have hlen : X4.length + (be 2 UC).length = 4 + 12 * k + 12 := by rw [hX4l.out]; simp [be_len]; try omega
            rw [← hX5, hlen] at hOd
            rw [hlen] at hNX ⊢
            have hO := Lib.hid hOd
            have hX5' := Lib.hid hX5
            have hHeld := hHeld2
            clear hOd hGd hHeld2 hlen hX5
            refine tk 21 rfl ?_
            refine wpAnyH_done (by kernel_rfl) (NoPanic.normal ?_) _
            have hnew : Hid (OwnB w2 Wd6 (.slice pd (4 + 12 * k + 12) cd) (be 4 nl ++ linksB (links.take (k + 1))) ∧ Keeps (fun _ => False) w2 Wd6) := Lib.hid ⟨by rw [htk.out]; have := hO.out; rw [hX5'.out, hX4'.out, hX3'.out, hX2'.out] at this; simp only [List.append_assoc] at this; exact this, hHeld.1⟩
            clear hHeld hO
            go_wp2_with fail
            exact ⟨⟨k + 1, pd, cd, by omega, by rw [show 4 + 12 * (k + 1) = 4 + 12 * k + 12 by omega], by go_num, by rw [show 4 + 12 * (k + 1) = 4 + 12 * k + 12 by omega]; exact hnew⟩, by simp [intOf]; omega⟩
        · go_simp
          refine hK.out _ _ (⟨hHeld.1.alloc _, ((Keeps.refl (fun _ => False) _).alloc _).rangeAt hHeld.2 (fun f => f)⟩) (fun hHeld => ?_)
          clear hK K
          try simp only [Act.put, sA, sZ, sS]
          have hSB : Hid (BytesAt (W0.alloc (.cells #[.int .u8 (T8 : Nat), .int .u8 0] 5)) (.slice (some ⟨W0.heap.size, 0, none⟩) 2 2) [UInt8.ofNat T8, 0]) := Lib.hid (by have := (OwnB.new W0 W0 (Nat.le_refl _) [UInt8.ofNat T8, 0] (n := 2) rfl (by unfold maxLen; omega)).bytes; rw [List.map_cons, List.map_cons, List.map_nil, bv_lt T8 lT8] at this; exact this)
          obtain ⟨G, hG⟩ : ∃ G, G = W0.heap.size := ⟨_, rfl⟩
          have hNE := Lib.hid (fun k e => show k ≠ G by have := hO.out.lt k e; omega)
          have hGlt : Hid (G < (W0.alloc (.cells #[.int .u8 (T8 : Nat), .int .u8 0] 5)).heap.size) := Lib.hid (by rw [hG]; simp)
          have hO := Lib.hid (hO.out.keep ((Keeps.refl (fun _ => False) W0).alloc (.cells #[.int .u8 (T8 : Nat), .int .u8 0] 5)) (fun _ _ f => f))
          rw [← hG] at hSB ⊢
          obtain ⟨W0s, hW0s⟩ : ∃ Wz, Wz = W0.alloc (.cells #[.int .u8 (T8 : Nat), .int .u8 0] 5) := ⟨_, rfl⟩
          rw [← hW0s] at hO hSB hHeld hGlt ⊢
          clear hW0s hG
          refine stepL 4 rfl (by kernel_rfl) (fun K hK => ?_)
          go_simp
          refine (r10num_any lid' 4 (Nat.lt_trans hl1h.out (by decide)) (by omega) _).mono ?_
          rintro e Wc0 ⟨pn, cn, rfl, hN, hkn⟩
          go_wp2_with fail
          refine hK.out _ _ (⟨hHeld.1.trans hkn, hkn.rangeAt hHeld.2 (fun f => f)⟩) (fun hHeld => ?_)
          clear hK K
          try simp only [Act.put, sA, sZ, sS]
          have hO := Lib.hid (hO.out.keep hkn (fun _ _ f => f))
          have hNb := Lib.hid hN.bytes
          have hSB := Lib.hid (hSB.out.keep hkn)
          have hGlt : Hid (G < Wc0.heap.size) := Lib.hid (Nat.lt_of_lt_of_le hGlt.out hkn.size)
          clear hN hkn
          refine stepL 5 rfl (by kernel_rfl) (fun K hK => ?_)
          rw [if_pos (by rfl)]
          refine wp_append_b (.tmp 39) (.tmp 43) 71 rfl i0 Try.underlying71 hi0 hz0 hz1 hz2 w2 _ X1 rfl hO.out _ rfl (be 4 lid') hNb.out (by rw [hX1l.out]; simp [be_len]; omega) ?_
          intro pd cd Wd1 hOd hGd
          refine hK.out _ _ (⟨hHeld.1.trans' hGd.k (fun i e => .inr (hO.out.2.1 i e)), hGd.range hNX.out hHeld.2⟩) (fun hHeld2 => ?_)
          clear hK K
          try simp only [Act.put, sA, sZ, sS]
          have hNX := Lib.hid (hGd.ne hNX.out (range_lt hHeld.2))
          have hSB := Lib.hid (hSB.out.keepF hGd.k (fun _ i e f => hNE.out i f (by have e : some G = some i := e; injection e with e; exact e.symm)))
          have hNE := Lib.hid (hGd.ne hNE.out hGlt.out)
          have hGlt : Hid (G < Wd1.heap.size) := Lib.hid (Nat.lt_of_lt_of_le hGlt.out hGd.k.size)
          obtain ⟨X2, hX2⟩ : ∃ X, X = X1 ++ (be 4 lid') := ⟨_, rfl⟩
          have hX2l : Hid (X2.length = 4 + 12 * k + 4) := Lib.hid (by rw [hX2, List.length_append, hX1l.out]; simp [be_len]; try omega)
          have hlen : X1.length + (be 4 lid').length = 4 + 12 * k + 4 := by rw [hX1l.out]; simp [be_len]; try omega
          rw [← hX2, hlen] at hOd
          rw [hlen] at hNX hNE ⊢
          have hO := Lib.hid hOd
          have hX2' := Lib.hid hX2
          have hHeld := hHeld2
          clear hOd hGd hHeld2 hlen hX2
          refine stepL 9 rfl (by kernel_rfl) (fun K hK => ?_)
          go_simp
          refine (r10num_any ldata 4 (Nat.lt_trans hl2h.out (by decide)) (by omega) _).mono ?_
          rintro e Wc2 ⟨pn, cn, rfl, hN, hkn⟩
          go_wp2_with fail
          refine hK.out _ _ (⟨hHeld.1.trans hkn, hkn.rangeAt hHeld.2 (fun f => f)⟩) (fun hHeld => ?_)
          clear hK K
          try simp only [Act.put, sA, sZ, sS]
          have hO := Lib.hid (hO.out.keep hkn (fun _ _ f => f))
          have hNb := Lib.hid hN.bytes
          have hSB := Lib.hid (hSB.out.keep hkn)
          have hGlt : Hid (G < Wc2.heap.size) := Lib.hid (Nat.lt_of_lt_of_le hGlt.out hkn.size)
          clear hN hkn
          refine stepL 10 rfl (by kernel_rfl) (fun K hK => ?_)
          rw [if_pos (by rfl)]
          refine wp_append_b (.tmp 44) (.tmp 48) 71 rfl i0 Try.underlying71 hi0 hz0 hz1 hz2 w2 _ X2 rfl hO.out _ rfl (be 4 ldata) hNb.out (by rw [hX2l.out]; simp [be_len]; omega) ?_
          intro pd cd Wd3 hOd hGd
          refine hK.out _ _ (⟨hHeld.1.trans' hGd.k (fun i e => .inr (hO.out.2.1 i e)), hGd.range hNX.out hHeld.2⟩) (fun hHeld2 => ?_)
          clear hK K
          try simp only [Act.put, sA, sZ, sS]
          have hNX := Lib.hid (hGd.ne hNX.out (range_lt hHeld.2))
          have hSB := Lib.hid (hSB.out.keepF hGd.k (fun _ i e f => hNE.out i f (by have e : some G = some i := e; injection e with e; exact e.symm)))
          have hNE := Lib.hid (hGd.ne hNE.out hGlt.out)
          have hGlt : Hid (G < Wd3.heap.size) := Lib.hid (Nat.lt_of_lt_of_le hGlt.out hGd.k.size)
          obtain ⟨X3, hX3⟩ : ∃ X, X = X2 ++ (be 4 ldata) := ⟨_, rfl⟩
          have hX3l : Hid (X3.length = 4 + 12 * k + 8) := Lib.hid (by rw [hX3, List.length_append, hX2l.out]; simp [be_len]; try omega)
          have hlen : X2.length + (be 4 ldata).length = 4 + 12 * k + 8 := by rw [hX2l.out]; simp [be_len]; try omega
          rw [← hX3, hlen] at hOd
          rw [hlen] at hNX hNE ⊢
          have hO := Lib.hid hOd
          have hX3' := Lib.hid hX3
          have hHeld := hHeld2
          clear hOd hGd hHeld2 hlen hX3
          refine stepL 15 rfl (by kernel_rfl) (fun K hK => ?_)
          rw [if_pos (by rfl)]
          refine wp_append_b (.tmp 49) (.tmp 53) 71 rfl i0 Try.underlying71 hi0 hz0 hz1 hz2 w2 _ X3 rfl hO.out _ rfl ([UInt8.ofNat T8, 0]) hSB.out (by rw [hX3l.out]; simp [be_len]; omega) ?_
          intro pd cd Wd4 hOd hGd
          refine hK.out _ _ (⟨hHeld.1.trans' hGd.k (fun i e => .inr (hO.out.2.1 i e)), hGd.range hNX.out hHeld.2⟩) (fun hHeld2 => ?_)
          clear hK K
          try simp only [Act.put, sA, sZ, sS]
          have hNX := Lib.hid (hGd.ne hNX.out (range_lt hHeld.2))
          obtain ⟨X4, hX4⟩ : ∃ X, X = X3 ++ [UInt8.ofNat T8, 0] := ⟨_, rfl⟩
          have hX4l : Hid (X4.length = 4 + 12 * k + 10) := Lib.hid (by rw [hX4, List.length_append, hX3l.out]; simp [be_len]; try omega)
          have hlen : X3.length + ([UInt8.ofNat T8, 0]).length = 4 + 12 * k + 10 := by rw [hX3l.out]; simp [be_len]; try omega
          rw [← hX4, hlen] at hOd
          rw [hlen] at hNX ⊢
          have hO := Lib.hid hOd
          have hX4' := Lib.hid hX4
          have hHeld := hHeld2
          clear hOd hGd hHeld2 hlen hX4 hSB hNE hGlt
          refine stepL 19 rfl (by kernel_rfl) (fun K hK => ?_)
          go_simp
          refine (r10num_any UC 2 lUC (by omega) _).mono ?_
          rintro e Wc5 ⟨pn, cn, rfl, hN, hkn⟩
          go_wp2_with fail
          refine hK.out _ _ (⟨hHeld.1.trans hkn, hkn.rangeAt hHeld.2 (fun f => f)⟩) (fun hHeld => ?_)
          clear hK K
          try simp only [Act.put, sA, sZ, sS]
          have hO := Lib.hid (hO.out.keep hkn (fun _ _ f => f))
          have hNb := Lib.hid hN.bytes
          clear hN hkn
          refine stepL 20 rfl (by kernel_rfl) (fun K hK => ?_)
          rw [if_pos (by rfl)]
          refine wp_append_b (.tmp 54) (.tmp 58) 71 rfl i0 Try.underlying71 hi0 hz0 hz1 hz2 w2 _ X4 rfl hO.out _ rfl (be 2 UC) hNb.out (by rw [hX4l.out]; simp [be_len]; omega) ?_
          intro pd cd Wd6 hOd hGd
          refine hK.out _ _ (⟨hHeld.1.trans' hGd.k (fun i e => .inr (hO.out.2.1 i e)), hGd.range hNX.out hHeld.2⟩) (fun hHeld2 => ?_)
          clear hK K
          try simp only [Act.put, sA, sZ, sS]
          have hNX := Lib.hid (hGd.ne hNX.out (range_lt hHeld.2))
          obtain ⟨X5, hX5⟩ : ∃ X, X = X4 ++ (be 2 UC) := ⟨_, rfl⟩
          have hX5l : Hid (X5.length = 4 + 12 * k + 12) := Lib.hid (by rw [hX5, List.length_append, hX4l.out]; simp [be_len]; try omega)
          have hlen : X4.length + (be 2 UC).length = 4 + 12 * k + 12 := by rw [hX4l.out]; simp [be_len]; try omega
          rw [← hX5, hlen] at hOd
          rw [hlen] at hNX ⊢
          have hO := Lib.hid hOd
          have hX5' := Lib.hid hX5
          have hHeld := hHeld2
          clear hOd hGd hHeld2 hlen hX5
          refine tk 21 rfl ?_
          refine wpAnyH_done (by kernel_rfl) (NoPanic.normal ?_) _
          have hnew : Hid (OwnB w2 Wd6 (.slice pd (4 + 12 * k + 12) cd) (be 4 nl ++ linksB (links.take (k + 1))) ∧ Keeps (fun _ => False) w2 Wd6) := Lib.hid ⟨by rw [htk.out]; have := hO.out; rw [hX5'.out, hX4'.out, hX3'.out, hX2'.out] at this; simp only [List.append_assoc] at this; exact this, hHeld.1⟩
          clear hHeld hO
          go_wp2_with fail
          exact ⟨⟨k + 1, pd, cd, by omega, by rw [show 4 + 12 * (k + 1) = 4 + 12 * k + 12 by omega], by go_num, by rw [show 4 + 12 * (k + 1) = 4 + 12 * k + 12 by omega]; exact hnew⟩, by simp [intOf]; omega⟩
      · obtain rfl : k = nl := by omega
        have hB3 := Lib.hid (hinv.out.2.rangeAt hB2.out (fun f => f))
        have kB3 := Lib.hid (kB2.out.trans hinv.out.2)
        have hT : be 4 k ++ linksB (links.take k) = Tl := by rw [List.take_of_length_le (by rw [hnl'.out]; omega)]; exact hTl1.out
        have hTl4 : 4 + 12 * k = Tl.length := by rw [← hT, List.length_append, be_len, linksB_len, List.length_take, hnl'.out]; omega
        rw [hT, hTl4] at hinv
        rw [hTl4]
        have hOt' := Lib.hid (hinv.out.1.older (w0 := w) kB2.out.size)
        clear hinv hT hTl4 hB2 kB2 hN1'
        go_upto_region 20 with fail
        clear a5
        have hOtb := Lib.hid hOt'.out.bytes
        have b0 := rangeAt_cell hB3.out 0 (.int .i64 age) rfl
        have b4 := rangeAt_cell hB3.out 4 (.int .i64 seq) rfl
        have hkey : Hid (wr.rangeAt w.heap.size 1 [.int .i64 1, .int .u32 lid, .int .u32 adv]) := Lib.hid (fun j u hu => hB3.out (1 + j) u (by
          match j, hu with
          | 0, hu => exact hu
          | 1, hu => exact hu
          | 2, hu => exact hu
          | j + 3, hu => simp at hu) |> fun h => by rw [Nat.zero_add] at h; exact h)
        clear hOt'
        go_wp2_with ((with_reducible refine at_slot 96 ?_); refine wpList_load_mid rfl 45 (.tmp 95) rfl w.heap.size 1 rfl _ _ hkey.out Try.underlying45 rfl keyInfoR ?_)
        refine (r10PutHeader_any age 1 seq (20 + (Tl.length : Int)) lid adv 0 hid hadv (by omega) _).mono ?_
        rintro e w4 ⟨ph, ch, rfl, hOh, k4⟩
        have hhl := headB_len ⟨age, 1, lid, adv, seq, 0, 20 + (Tl.length : Int)⟩
        obtain ⟨Hd, hHd⟩ : ∃ H, headB ⟨age, 1, lid, adv, seq, 0, 20 + (Tl.length : Int)⟩ = H := ⟨_, rfl⟩
        rw [hHd] at hhl hOh
        rw [hHd, hhl]
        rw [hhl] at hOh
        have hBs2 : Hid (Hd ++ Tl = Bs) := Lib.hid (by rw [← hHd]; exact hBs'.out)
        have hhl' := Lib.hid hhl
        have kB4 := Lib.hid (kB3.out.trans k4)
        have hOt4 := Lib.hid (hOtb.out.keep k4)
        have hOh' := Lib.hid (hOh.older (w0 := w) (by have := kB3.out.size; exact this))
        clear hhl hOh k4 hHd kB3 hB3 hkey b0 b4 hOtb hBs'
        go_wp2_with ((with_reducible refine at_slot 106 ?_); refine wpList_append_b rfl (.tmp 104) (.tmp 105) 71 rfl i0 Try.underlying71 hi0 hz0 hz1 hz2 w _ Hd rfl (hv20 hhl'.out hOh').out _ rfl Tl hOt4.out (by rw [hhl'.out]; omega) ?_; intro q d w5 hO5 hg5; have hO6 := append_name hhl'.out hN'.out hBs2.out hO5; have k6 := Lib.hid ((hv20 hhl'.out hOh').out.keeps kB4.out hg5.out); clear hO5 hg5; rw [show Hd.length + Tl.length = N by rw [hhl'.out]; exact hN'.out.symm]; obtain ⟨g, hq, hg0, -, -⟩ := hO6.out.writes (by rw [hBl'.out]; omega); subst hq; have hg0' := Lib.hid hg0; clear hg0; have hcap := hO6.out.cap)
        refine (r9Fletcher_n g 2 (d - 2) (Bs.drop 2) (N - 2) 14 (Lib.hid (by rw [List.length_drop, hBl'.out])) (by omega) (by omega) X Y _ (Lib.hid (own_drop hO6.out 2)) hX' hY').mono ?_
        rintro e w7 ⟨rfl, rfl⟩
        have hO7 := hO6
        have kB7 := k6
        obtain ⟨g', e', -, hcell, hset⟩ := hO7.out.writes (by rw [hBl'.out]; omega)
        injection e' with e'; injection e' with e'; subst e'
        have c16 := (hcell 16 (by rw [hBl'.out]; omega)).1
        have f16 := (hcell 16 (by rw [hBl'.out]; omega)).2
        have c17 := (hcell 17 (by rw [hBl'.out]; omega)).1
        have f17 := (hcell 17 (by rw [hBl'.out]; omega)).2
        have eX : (UInt8.ofNat X).toNat = X := by simp; omega
        have eY : (UInt8.ofNat Y).toNat = Y := by simp; omega
        have hs1 := hset 16 (UInt8.ofNat X)
        rw [eX] at hs1
        obtain ⟨g2, e2, -, -, hset2⟩ := hs1.writes (by simp; rw [hBl'.out]; omega)
        injection e2 with e2; injection e2 with e2; subst e2
        have hs2 := hset2 17 (UInt8.ofNat Y)
        rw [eY] at hs2
        have hk8 : Keeps (fun _ => False) w ((w5.setCell ⟨g, 16, none⟩ (.int .u8 X)).setCell ⟨g, 17, none⟩ (.int .u8 Y)) := (kB7.out.setCell (p := ⟨g, 16, none⟩) (.inr hg0'.out) _).setCell (p := ⟨g, 17, none⟩) (.inr hg0'.out) _
        have hs2' := Lib.hid hs2; have hk8' := Lib.hid hk8
        clear hs1 hset hset2 hcell hs2 hk8 eX eY hO6 hO7 k6 kB7
        go_wp2_with fail
        go_ret2
        exact ⟨_, d, rfl, hs2'.out, hk8'.out⟩
  · skip
    have wmask : IntKind.u64.wrap (mask : Int) = (mask : Int) := IntWalk.u64_in _ (by omega)
    have hTl2 : Hid (be 4 mask ++ bes routers = Tl) := Lib.hid (by
      rw [← hTl'.out]
      unfold tellB
      rw [if_neg (show ¬ (2 : Int) = 1 by decide), if_pos rfl])
    have b6 := rangeAt_cell hB2.out 6 (.int .u32 mask) rfl
    go_wp2_with fail
    refine (r10num_any mask 4 (by omega) (by omega) _).mono ?_
    rintro e w3 ⟨pa, ca, rfl, hN1, hk1⟩
    rw [be_len] at hN1 ⊢
    have hN1' := Lib.hid (show OwnB w2 w3 (.slice pa (4 + 4 * 0) ca) (be 4 mask ++ bes (routers.take 0)) by rw [List.take_zero]; simpa [bes] using hN1)
    have hk1' := Lib.hid hk1
    obtain ⟨nr, hnr⟩ : ∃ nr, routers.length = nr := ⟨_, rfl⟩
    have hnr' := Lib.hid hnr
    rw [hnr] at hlen2
    clear b1 b6 hN1 hk1 hnr
    go_wp2_with fail
    go_loopw [4, 7] (fun bv iv wr => ∃ (k : Nat) (pb : Option Addr) (cb : Nat), k ≤ nr ∧ bv = .slice pb (4 + 4 * k) cb ∧ iv = .int .i64 k ∧ Hid (OwnB w2 wr (.slice pb (4 + 4 * k) cb) (be 4 mask ++ bes (routers.take k)) ∧ Keeps (fun _ => False) w2 wr)) (fun _ iv _ => nr - (intOf iv).toNat)
    case atStart => exact ⟨0, pa, ca, by omega, rfl, rfl, Lib.hid ⟨hN1'.out, hk1'.out⟩⟩
    case round =>
      obtain ⟨k, pb, cb, hk, rfl, rfl, hinv⟩ := hrel
      have a7 := rangeAt_cell (hinv.out.2.rangeAt hB2.out (fun f => f)) 7 (.slice p7 nr c7) (by rw [← hnr'.out]; rfl)
      by_cases hkn : k < nr
      · have hkni : (k : Int) < nr := by omega
        obtain ⟨g7, o7, rfl, hrow⟩ := (show ∃ g o, p7 = some ⟨g, o, none⟩ ∧ w2.rangeAt g o (routers.map nv) from by
          obtain ⟨p', c', e, -, -, hrr⟩ := hr2.out
          injection e with e1 e2 e3
          subst e1
          exact hrr (by rw [hnr'.out]; omega))
        have hkl : k < routers.length := by rw [hnr'.out]; exact hkn
        obtain ⟨r, hrk⟩ : ∃ r, routers[k] = r := ⟨_, rfl⟩
        have hrlt : r < 4294967296 := by rw [← hrk]; exact hrok.out _ (List.getElem_mem hkl)
        have hcr := (hinv.out.2.rangeAt hrow (fun f => f)) k (nv r) (by rw [List.getElem?_map, List.getElem?_eq_getElem hkl, hrk]; rfl)
        unfold nv at hcr
        have wr : IntKind.u64.wrap (r : Int) = (r : Int) := IntWalk.u64_in _ (by omega)
        have htk : Hid (be 4 mask ++ bes (routers.take (k + 1)) = (be 4 mask ++ bes (routers.take k)) ++ be 4 r) := Lib.hid (by rw [List.take_succ_eq_append_getElem hkl, hrk, bes_snoc, List.append_assoc])
        obtain ⟨X1, hX1⟩ : ∃ X1, be 4 mask ++ bes (routers.take k) = X1 := ⟨_, rfl⟩
        have hX1l : Hid (X1.length = 4 + 4 * k) := Lib.hid (by rw [← hX1, List.length_append, be_len, bes_len, List.length_take]; omega)
        rw [hX1] at hinv htk
        clear hX1 hrow hkl hrk
        go_wp2_with fail
        refine (r10num_any r 4 (by omega) (by omega) _).mono ?_
        rintro e w4 ⟨pc, cc, rfl, hN2, hk2⟩
        rw [be_len] at hN2 ⊢
        have hN2' := Lib.hid hN2.bytes
        have hO2 : Hid (OwnB w2 w4 (.slice pb (4 + 4 * k) cb) X1) := Lib.hid (hinv.out.1.keep hk2 (fun _ _ f => f))
        have hK2 := Lib.hid (hinv.out.2.trans hk2)
        clear hN2 hk2 hinv a7 hcr wr
        go_wp2_with ((with_reducible refine at_slot 81 ?_); refine wpList_append_b rfl (.tmp 73) (.tmp 80) 71 rfl i0 Try.underlying71 hi0 hz0 hz1 hz2 w2 _ X1 rfl hO2.out _ rfl (be 4 r) hN2'.out (by rw [hX1l.out, be_len]; omega) ?_; intro pd cd w5 hO5 hG5; rw [show X1.length + (be 4 r).length = 4 + 4 * (k + 1) by rw [hX1l.out, be_len]; omega] at hO5 ⊢)
        have hnew : Hid (OwnB w2 w5 (.slice pd (4 + 4 * (k + 1)) cd) (be 4 mask ++ bes (routers.take (k + 1))) ∧ Keeps (fun _ => False) w2 w5) := Lib.hid ⟨by rw [htk.out]; exact hO5.out, hO2.out.keeps hK2.out hG5.out⟩
        exact ⟨⟨k + 1, pd, cd, by omega, rfl, by go_num, hnew⟩, by simp [intOf]; omega⟩
      · obtain rfl : k = nr := by omega
        have hB3 := Lib.hid (hinv.out.2.rangeAt hB2.out (fun f => f))
        have kB3 := Lib.hid (kB2.out.trans hinv.out.2)
        have hT : be 4 mask ++ bes (routers.take k) = Tl := by rw [List.take_of_length_le (by rw [hnr'.out]; omega)]; exact hTl2.out
        have hTl4 : 4 + 4 * k = Tl.length := by rw [← hT, List.length_append, be_len, bes_len, List.length_take, hnr'.out]; omega
        rw [hT, hTl4] at hinv
        rw [hTl4]
        have hOt' := Lib.hid (hinv.out.1.older (w0 := w) kB2.out.size)
        clear hinv hT hTl4 hB2 kB2 hN1' hk1'
        go_upto_region 20 with fail
        clear a7
        have hOtb := Lib.hid hOt'.out.bytes
        have b0 := rangeAt_cell hB3.out 0 (.int .i64 age) rfl
        have b4 := rangeAt_cell hB3.out 4 (.int .i64 seq) rfl
        have hkey : Hid (wr.rangeAt w.heap.size 1 [.int .i64 2, .int .u32 lid, .int .u32 adv]) := Lib.hid (fun j u hu => hB3.out (1 + j) u (by
          match j, hu with
          | 0, hu => exact hu
          | 1, hu => exact hu
          | 2, hu => exact hu
          | j + 3, hu => simp at hu) |> fun h => by rw [Nat.zero_add] at h; exact h)
        clear hOt'
        go_wp2_with ((with_reducible refine at_slot 96 ?_); refine wpList_load_mid rfl 45 (.tmp 95) rfl w.heap.size 1 rfl _ _ hkey.out Try.underlying45 rfl keyInfoR ?_)
        refine (r10PutHeader_any age 2 seq (20 + (Tl.length : Int)) lid adv 0 hid hadv (by omega) _).mono ?_
        rintro e w4 ⟨ph, ch, rfl, hOh, k4⟩
        have hhl := headB_len ⟨age, 2, lid, adv, seq, 0, 20 + (Tl.length : Int)⟩
        obtain ⟨Hd, hHd⟩ : ∃ H, headB ⟨age, 2, lid, adv, seq, 0, 20 + (Tl.length : Int)⟩ = H := ⟨_, rfl⟩
        rw [hHd] at hhl hOh
        rw [hHd, hhl]
        rw [hhl] at hOh
        have hBs2 : Hid (Hd ++ Tl = Bs) := Lib.hid (by rw [← hHd]; exact hBs'.out)
        have hhl' := Lib.hid hhl
        have kB4 := Lib.hid (kB3.out.trans k4)
        have hOt4 := Lib.hid (hOtb.out.keep k4)
        have hOh' := Lib.hid (hOh.older (w0 := w) (by have := kB3.out.size; exact this))
        clear hhl hOh k4 hHd kB3 hB3 hkey b0 b4 hOtb hBs'
        go_wp2_with ((with_reducible refine at_slot 106 ?_); refine wpList_append_b rfl (.tmp 104) (.tmp 105) 71 rfl i0 Try.underlying71 hi0 hz0 hz1 hz2 w _ Hd rfl (hv20 hhl'.out hOh').out _ rfl Tl hOt4.out (by rw [hhl'.out]; omega) ?_; intro q d w5 hO5 hg5; have hO6 := append_name hhl'.out hN'.out hBs2.out hO5; have k6 := Lib.hid ((hv20 hhl'.out hOh').out.keeps kB4.out hg5.out); clear hO5 hg5; rw [show Hd.length + Tl.length = N by rw [hhl'.out]; exact hN'.out.symm]; obtain ⟨g, hq, hg0, -, -⟩ := hO6.out.writes (by rw [hBl'.out]; omega); subst hq; have hg0' := Lib.hid hg0; clear hg0; have hcap := hO6.out.cap)
        refine (r9Fletcher_n g 2 (d - 2) (Bs.drop 2) (N - 2) 14 (Lib.hid (by rw [List.length_drop, hBl'.out])) (by omega) (by omega) X Y _ (Lib.hid (own_drop hO6.out 2)) hX' hY').mono ?_
        rintro e w7 ⟨rfl, rfl⟩
        have hO7 := hO6
        have kB7 := k6
        obtain ⟨g', e', -, hcell, hset⟩ := hO7.out.writes (by rw [hBl'.out]; omega)
        injection e' with e'; injection e' with e'; subst e'
        have c16 := (hcell 16 (by rw [hBl'.out]; omega)).1
        have f16 := (hcell 16 (by rw [hBl'.out]; omega)).2
        have c17 := (hcell 17 (by rw [hBl'.out]; omega)).1
        have f17 := (hcell 17 (by rw [hBl'.out]; omega)).2
        have eX : (UInt8.ofNat X).toNat = X := by simp; omega
        have eY : (UInt8.ofNat Y).toNat = Y := by simp; omega
        have hs1 := hset 16 (UInt8.ofNat X)
        rw [eX] at hs1
        obtain ⟨g2, e2, -, -, hset2⟩ := hs1.writes (by simp; rw [hBl'.out]; omega)
        injection e2 with e2; injection e2 with e2; subst e2
        have hs2 := hset2 17 (UInt8.ofNat Y)
        rw [eY] at hs2
        have hk8 : Keeps (fun _ => False) w ((w5.setCell ⟨g, 16, none⟩ (.int .u8 X)).setCell ⟨g, 17, none⟩ (.int .u8 Y)) := (kB7.out.setCell (p := ⟨g, 16, none⟩) (.inr hg0'.out) _).setCell (p := ⟨g, 17, none⟩) (.inr hg0'.out) _
        have hs2' := Lib.hid hs2; have hk8' := Lib.hid hk8
        clear hs1 hset hset2 hcell hs2 hk8 eX eY hO6 hO7 k6 kB7
        go_wp2_with fail
        go_ret2
        exact ⟨_, d, rfl, hs2'.out, hk8'.out⟩
  · skip
    obtain ⟨U, hU, lU, hUl⟩ := u64_nat cost
    have wmask : IntKind.u64.wrap (mask : Int) = (mask : Int) := IntWalk.u64_in _ (by omega)
    have hTl3 : Hid (be 4 mask ++ be 4 U = Tl) := Lib.hid (by
      rw [← hTl'.out, ← hUl.out, ← be4_lo]
      unfold tellB
      rw [if_neg (show ¬ (3 : Int) = 1 by decide), if_neg (show ¬ (3 : Int) = 2 by decide)])
    go_upto_region 19 with fail
    clear b1
    refine wp_region_noPanic ?_
    refine wp_region_held_drew (S := (fun W => Keeps (fun _ => False) w2 W)) (by kernel_rfl) (((Keeps.refl (fun _ => False) _).drew)) (fun hHeld => ?_)
    refine tk 0 rfl ?_
    refine tkL 1 rfl (yieldsIf_load_cell (by rfl) 23 (.tmp 84) rfl w.heap.size 6 rfl _ (fun _ s => rangeAt_cell (s.rangeAt hB2.out (fun f => f)) 6 (.int .u32 mask) rfl) (fun w s => load_u32 w _ _ _ s)) ?_
    refine tk 2 rfl ?_
    refine tk 4 rfl ?_
    refine tkL 5 rfl (yieldsIf_load_cell (by rfl) 3 (.tmp 88) rfl w.heap.size 8 rfl _ (fun _ s => rangeAt_cell (s.rangeAt hB2.out (fun f => f)) 8 (.int .i64 cost) rfl) (fun w s => load_int w _ _ _ s)) ?_
    refine tk 6 rfl ?_
    refine stepL 3 rfl (by kernel_rfl) (fun K hK => ?_)
    go_simp
    (refine (r10num_any mask 4 (by omega) (by omega) _).mono ?_; rintro e Wa ⟨pa, ca, rfl, hN1, hk1⟩; have hO1 := Lib.hid (hN1.older (w0 := w2) hHeld.size))
    go_wp2_with fail
    refine hK.out _ _ ((hHeld.trans hk1)) (fun hHeld => ?_)
    clear hK K
    try simp only [Act.put, sA, sZ, sS]
    refine stepL 7 rfl (by kernel_rfl) (fun K hK => ?_)
    go_simp
    (refine (r10num_any U 4 lU (by omega) _).mono ?_; rintro e Wb ⟨pb, cb, rfl, hN2, hk2⟩; have hO2 := Lib.hid (hO1.out.keep hk2 (fun _ _ f => f)); have hN2' := Lib.hid hN2.bytes)
    go_wp2_with fail
    refine hK.out _ _ ((hHeld.trans hk2)) (fun hHeld => ?_)
    clear hK K
    try simp only [Act.put, sA, sZ, sS]
    refine stepL 8 rfl (by kernel_rfl) (fun K hK => ?_)
    rw [if_pos (by rfl)]
    (refine wp_append_b (.tmp 87) (.tmp 91) 71 rfl i0 Try.underlying71 hi0 hz0 hz1 hz2 w2 _ (be 4 mask) rfl hO2.out _ rfl (be 4 U) hN2'.out (by rw [be_len, be_len]; omega) ?_; intro pt ct wt hO3 hG3)
    refine hK.out _ _ ((hHeld.trans' hG3.k (fun i e => .inr (hO2.out.2.1 i e)))) (fun hHeld => ?_)
    clear hK K
    try simp only [Act.put, sA, sZ, sS]
    refine tk 9 rfl ?_
    refine wpAnyH_done (by kernel_rfl) (NoPanic.normal ?_) _
    have hB3 := Lib.hid (hHeld.rangeAt hB2.out (fun f => f))
    have kB3 := Lib.hid (kB2.out.trans hHeld)
    rw [hTl3.out] at hO3
    have hlT : (be 4 mask).length + (be 4 U).length = Tl.length := by rw [← hTl3.out, List.length_append]
    rw [hlT] at hO3 ⊢
    have hOt' := Lib.hid (hO3.older (w0 := w) kB2.out.size)
    clear hHeld hO3 hG3 hO2 hN2' hN1 hN2 hO1 hk1 hk2 hlT hB2 kB2
    have hOtb := Lib.hid hOt'.out.bytes
    have b0 := rangeAt_cell hB3.out 0 (.int .i64 age) rfl
    have b4 := rangeAt_cell hB3.out 4 (.int .i64 seq) rfl
    have hkey : Hid (wt.rangeAt w.heap.size 1 [.int .i64 3, .int .u32 lid, .int .u32 adv]) := Lib.hid (fun j u hu => hB3.out (1 + j) u (by
      match j, hu with
      | 0, hu => exact hu
      | 1, hu => exact hu
      | 2, hu => exact hu
      | j + 3, hu => simp at hu) |> fun h => by rw [Nat.zero_add] at h; exact h)
    clear hOt'
    go_wp2_with ((with_reducible refine at_slot 96 ?_); refine wpList_load_mid rfl 45 (.tmp 95) rfl w.heap.size 1 rfl _ _ hkey.out Try.underlying45 rfl keyInfoR ?_)
    refine (r10PutHeader_any age 3 seq (20 + (Tl.length : Int)) lid adv 0 hid hadv (by omega) _).mono ?_
    rintro e w4 ⟨ph, ch, rfl, hOh, k4⟩
    have hhl := headB_len ⟨age, 3, lid, adv, seq, 0, 20 + (Tl.length : Int)⟩
    obtain ⟨Hd, hHd⟩ : ∃ H, headB ⟨age, 3, lid, adv, seq, 0, 20 + (Tl.length : Int)⟩ = H := ⟨_, rfl⟩
    rw [hHd] at hhl hOh
    rw [hHd, hhl]
    rw [hhl] at hOh
    have hBs2 : Hid (Hd ++ Tl = Bs) := Lib.hid (by rw [← hHd]; exact hBs'.out)
    have hhl' := Lib.hid hhl
    have kB4 := Lib.hid (kB3.out.trans k4)
    have hOt4 := Lib.hid (hOtb.out.keep k4)
    have hOh' := Lib.hid (hOh.older (w0 := w) (by have := kB3.out.size; exact this))
    clear hhl hOh k4 hHd kB3 hB3 hkey b0 b4 hOtb hBs'
    go_wp2_with ((with_reducible refine at_slot 106 ?_); refine wpList_append_b rfl (.tmp 104) (.tmp 105) 71 rfl i0 Try.underlying71 hi0 hz0 hz1 hz2 w _ Hd rfl (hv20 hhl'.out hOh').out _ rfl Tl hOt4.out (by rw [hhl'.out]; omega) ?_; intro q d w5 hO5 hg5; have hO6 := append_name hhl'.out hN'.out hBs2.out hO5; have k6 := Lib.hid ((hv20 hhl'.out hOh').out.keeps kB4.out hg5.out); clear hO5 hg5; rw [show Hd.length + Tl.length = N by rw [hhl'.out]; exact hN'.out.symm]; obtain ⟨g, hq, hg0, -, -⟩ := hO6.out.writes (by rw [hBl'.out]; omega); subst hq; have hg0' := Lib.hid hg0; clear hg0; have hcap := hO6.out.cap)
    refine (r9Fletcher_n g 2 (d - 2) (Bs.drop 2) (N - 2) 14 (Lib.hid (by rw [List.length_drop, hBl'.out])) (by omega) (by omega) X Y _ (Lib.hid (own_drop hO6.out 2)) hX' hY').mono ?_
    rintro e w7 ⟨rfl, rfl⟩
    have hO7 := hO6
    have kB7 := k6
    obtain ⟨g', e', -, hcell, hset⟩ := hO7.out.writes (by rw [hBl'.out]; omega)
    injection e' with e'; injection e' with e'; subst e'
    have c16 := (hcell 16 (by rw [hBl'.out]; omega)).1
    have f16 := (hcell 16 (by rw [hBl'.out]; omega)).2
    have c17 := (hcell 17 (by rw [hBl'.out]; omega)).1
    have f17 := (hcell 17 (by rw [hBl'.out]; omega)).2
    have eX : (UInt8.ofNat X).toNat = X := by simp; omega
    have eY : (UInt8.ofNat Y).toNat = Y := by simp; omega
    have hs1 := hset 16 (UInt8.ofNat X)
    rw [eX] at hs1
    obtain ⟨g2, e2, -, -, hset2⟩ := hs1.writes (by simp; rw [hBl'.out]; omega)
    injection e2 with e2; injection e2 with e2; subst e2
    have hs2 := hset2 17 (UInt8.ofNat Y)
    rw [eY] at hs2
    have hk8 : Keeps (fun _ => False) w ((w5.setCell ⟨g, 16, none⟩ (.int .u8 X)).setCell ⟨g, 17, none⟩ (.int .u8 Y)) := (kB7.out.setCell (p := ⟨g, 16, none⟩) (.inr hg0'.out) _).setCell (p := ⟨g, 17, none⟩) (.inr hg0'.out) _
    have hs2' := Lib.hid hs2; have hk8' := Lib.hid hk8
    clear hs1 hset hset2 hcell hs2 hk8 eX eY hO6 hO7 k6 kB7
    go_wp2_with fail
    go_ret2
    exact ⟨_, d, rfl, hs2'.out, hk8'.out⟩
end Go.Proofs.Ytdaongflpllfhaa
