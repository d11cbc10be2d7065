/- lsa.Put, walked. -/
import Derived.Test.YtdaongflpllfhaaLS04
import Derived.StillTailTactics
set_option linter.unusedVariables false
set_option linter.unusedSimpArgs false
namespace Go.Proofs.Ytdaongflpllfhaa
open Go.RowKit

/-- a row of the call's own may be written -/
theorem OwnB.writes {w0 w : World} {q : Option Addr} {n c : Nat} {xs : List UInt8} (h : OwnB w0 w (.slice q n c) xs) (h0 : 0 < xs.length) :
    ∃ g, q = some ⟨g, 0, none⟩ ∧ w0.heap.size ≤ g ∧ (∀ k, (hk : k < xs.length) → w.cell? ⟨g, k, none⟩ = some (.int .u8 (xs[k]).toNat) ∧ w.frozen? ⟨g, k, none⟩ = false) ∧
      ∀ (k : Nat) (b : UInt8), OwnB w0 (w.setCell ⟨g, k, none⟩ (.int .u8 b.toNat)) (.slice q n c) (xs.set k b) := by
  obtain ⟨⟨h1, h2⟩, h3, h4⟩ := h
  rcases h2 with ⟨e, _⟩ | ⟨g, cap, cur, e, _, hg, hn, hm, hs, ht⟩
  · injection e with e1 e2 e3; omega
  · injection e with e1 e2 e3
    subst e1; subst e3
    have hl : xs.length * 1 = (xs.map bv).length := by simp
    refine ⟨g, rfl, h3 g rfl, fun k hk => ⟨?_, ?_⟩, fun k b => ⟨⟨by simp, .inr ⟨g, c, cur.setIfInBounds k (.int .u8 b.toNat), by simpa using e2, Nat.zero_le _, heap_put hg k _, by simpa using hn, hm, by simpa using hs, ?_⟩⟩, h3, by simp only [World.setCell, Array.size_modify]; exact h4⟩⟩
    · have hk2 : k < cur.size := by rw [hs]; omega
      have : cur.toList[k]? = some (.int .u8 (xs[k]).toNat) := by
        have e4 : (cur.toList.take (xs.length * 1))[k]? = (xs.map bv)[k]? := by rw [ht]
        rw [List.getElem?_take, if_pos (by omega)] at e4
        rw [e4]; simp [hk, bv]
      simp only [World.cell?, hg]
      simpa using this
    · simp [World.frozen?, hg]
    · simp only [List.length_set, Array.toList_setIfInBounds, List.map_set]
      rw [List.take_set, ht]; rfl

theorem OwnB.cap {w0 w : World} {q : Option Addr} {n c : Nat} {xs : List UInt8} (h : OwnB w0 w (.slice q n c) xs) : n ≤ c := by
  rcases h.1.2 with ⟨e, _⟩ | ⟨g, cap, cur, e, _, _, hn, _⟩
  · injection e with e1 e2 e3; omega
  · injection e with e1 e2 e3; omega
theorem own_drop {w0 w : World} {g n c : Nat} {xs : List UInt8} (h : OwnB w0 w (.slice (some ⟨g, 0, none⟩) n c) xs) (i : Nat) : w.rangeAt g i ((xs.drop i).map bv) := by
  obtain ⟨p, c', e, -, -, hr⟩ := h.bytes
  injection e with e1 e2 e3
  by_cases h0 : 0 < xs.length
  · obtain ⟨b, o, e4, hra⟩ := hr h0
    rw [e4] at e1; injection e1 with e1; injection e1 with e1 e5
    subst e1; subst e5
    have := range_part hra i (xs.length - i)
    rw [List.take_of_length_le (by simp), Nat.zero_add] at this
    exact this
  · have : xs = [] := List.length_eq_zero_iff.1 (by omega)
    subst this
    intro j u hu; simp at hu
theorem lsaInfo : (Try.prog.info? 29).map (·.size) = some 9 := by kernel_rfl
theorem keyInfo : (Try.prog.info? 25).map (·.size) = some 3 := by kernel_rfl
theorem suFletcher_n (g o c : Nat) (l : List UInt8) (n k : Nat) (hn : Hid (l.length = n)) (hk : k + 2 ≤ n) (hl : n ≤ 1000000) (hc : n ≤ c) (X Y : Nat) (w : World) (hr : Hid (w.rangeAt g o (l.map bv))) (hX : Hid (flX (zed l k) n k = X)) (hY : Hid (flY (zed l k) n k = Y)) :
    Calls Try.prog 88 #[.slice (some ⟨g, o, none⟩) n c, .int .i64 k] w fun e w' => e = .returned (.tuple #[.int .u8 X, .int .u8 Y]) ∧ Keeps (fun _ => False) w w' := by
  have e := hn.out
  subst e
  rw [← hX.out, ← hY.out]
  exact suFletcher_yes g o c l k hk hl hc w hr
theorem hv20 {w0 W : World} {q : Option Addr} {n d : Nat} {X : List UInt8} (_ : X.length = n) (h : Hid (OwnB w0 W (.slice q n d) X)) : Hid (OwnB w0 W (.slice q n d) X) := h
theorem append_name {w0 W : World} {q : Option Addr} {d n N : Nat} {X l Y : List UInt8} (hX : X.length = n) (hN : N = n + l.length) (hY : X ++ l = Y) (h : Hid (OwnB w0 W (.slice q (X.length + l.length) d) (X ++ l))) : Hid (OwnB w0 W (.slice q N d) Y) := by
  have := h.out
  rw [hY, hX, ← hN] at this
  exact Lib.hid this
/-- an Lsa's bytes, without its sum -/
def baseB (l : LsaD) : List UInt8 := headB ⟨l.age, l.type, l.id, l.adv, l.seq, 0, 20 + ((tellB l).length : Int)⟩ ++ tellB l
/-- .. with it -/
def putB (l : LsaD) : List UInt8 :=
  ((baseB l).set 16 (UInt8.ofNat (flX (zed ((baseB l).drop 2) 14) ((baseB l).length - 2) 14))).set 17 (UInt8.ofNat (flY (zed ((baseB l).drop 2) 14) ((baseB l).length - 2) 14))
theorem baseB_len (l : LsaD) : (baseB l).length = 20 + (tellB l).length := by unfold baseB; rw [List.length_append, headB_len]
theorem putB_len (l : LsaD) : (putB l).length = 20 + (tellB l).length := by unfold putB; simp [baseB_len]
theorem canB_told {l : LsaD} (h : canB l = true) : toldB l = true := by
  unfold canB at h
  simp at h
  exact h.2.2
theorem canB_lens {l : LsaD} (h : canB l = true) : l.links.length ≤ 40 ∧ l.routers.length ≤ 40 := by
  have h2 := canB_told h
  unfold toldB withinB at h2
  split at h2
  · simp only [Bool.and_eq_true, decide_eq_true_eq] at h2; omega
  · split at h2
    · simp only [Bool.and_eq_true, decide_eq_true_eq] at h2; omega
    · split at h2
      · simp only [Bool.and_eq_true, decide_eq_true_eq] at h2; omega
      · cases h2
theorem tellB_len {l : LsaD} (h1 : l.links.length ≤ 40) (h2 : l.routers.length ≤ 40) : 4 ≤ (tellB l).length ∧ (tellB l).length ≤ 484 := by
  unfold tellB
  split
  · rw [List.length_append, be_len, linksB_len]; omega
  · split
    · rw [List.length_append, be_len, bes_len]; omega
    · rw [List.length_append, be_len, be_len]; omega

set_option maxRecDepth 100000 in
set_option maxHeartbeats 4000000 in
theorem lsPut_no (age type seq cost : Int) (lid adv mask : Nat) (links : List LinkD) (routers : List Nat) (p5 p7 : Option Addr) (c5 c7 : Nat) (w : World)
    (hl : Hid (LinksAt w (.slice p5 links.length c5) links)) (hll : links.length ≤ 9223372036854775807) (hrl : routers.length ≤ 9223372036854775807) (hz : Hid (canB ⟨age, type, lid, adv, seq, links, mask, routers, cost⟩ = false)) :
    Calls Try.prog 54 #[.agg #[.int .i64 age, .int .i64 type, .int .u32 lid, .int .u32 adv, .int .i64 seq, .slice p5 links.length c5, .int .u32 mask, .slice p7 routers.length c7, .int .i64 cost]] w (fun e w' => e = .returned (.tuple #[.slice none 0 0, .int .i64 1]) ∧ Keeps (fun _ => False) w w') := by
  have hB : Hid ((w.alloc (.cells #[.int .i64 age, .int .i64 type, .int .u32 lid, .int .u32 adv, .int .i64 seq, .slice p5 links.length c5, .int .u32 mask, .slice p7 routers.length c7, .int .i64 cost] 29)).rangeAt w.heap.size 0 [.int .i64 age, .int .i64 type, .int .u32 lid, .int .u32 adv, .int .i64 seq, .slice p5 links.length c5, .int .u32 mask, .slice p7 routers.length c7, .int .i64 cost]) := Lib.hid (new_rangeb w _ 29)
  go_enter Try.func54, Try.ntmps54
  go_wp2_with ((with_reducible refine at_slot 6 ?_); refine wpList_load_mid rfl 29 (.tmp 1) rfl w.heap.size 0 rfl _ _ hB.out Try.underlying29 rfl lsaInfo ?_)
  refine (lsCanBe_any age type seq cost lid adv mask links routers p5 p7 c5 c7 false _ (Lib.hid (hl.out.keep ((Keeps.refl _ _).alloc _))) hll hrl hz).mono ?_
  rintro e w2 ⟨rfl, k2⟩
  have k2' := Lib.hid k2; clear k2
  go_wp2_with fail
  go_ret2
  exact ⟨rfl, ((Keeps.refl _ _).alloc _).trans k2'.out⟩

set_option maxRecDepth 100000 in
set_option maxHeartbeats 4000000 in
theorem lsPut_yes (age type seq cost : Int) (lid adv mask : Nat) (links : List LinkD) (routers : List Nat) (p5 p7 : Option Addr) (c5 c7 : Nat) (w : World)
    (hl : Hid (LinksAt w (.slice p5 links.length c5) links)) (hr : Hid (NumsAt w (.slice p7 routers.length c7) routers)) (hlok : Hid (∀ l ∈ links, l.ok)) (hrok : Hid (Small routers)) (hid : lid < 4294967296) (hadv : adv < 4294967296) (hm : mask < 4294967296) (hz : Hid (canB ⟨age, type, lid, adv, seq, links, mask, routers, cost⟩ = true)) :
    Calls Try.prog 54 #[.agg #[.int .i64 age, .int .i64 type, .int .u32 lid, .int .u32 adv, .int .i64 seq, .slice p5 links.length c5, .int .u32 mask, .slice p7 routers.length c7, .int .i64 cost]] w (fun e w' => ∃ p c, e = .returned (.tuple #[.slice p (putB ⟨age, type, lid, adv, seq, links, mask, routers, cost⟩).length c, .int .i64 0]) ∧ OwnB w w' (.slice p (putB ⟨age, type, lid, adv, seq, links, mask, routers, cost⟩).length c) (putB ⟨age, type, lid, adv, seq, links, mask, routers, cost⟩) ∧ Keeps (fun _ => False) w w') := by
  obtain ⟨i0, hi0, hz0, hz1, hz2⟩ := info_parts u8InfoAll
  have hlens := canB_lens hz.out
  have hlen1 : links.length ≤ 40 := hlens.1
  have hlen2 : routers.length ≤ 40 := hlens.2
  have htl := tellB_len (l := ⟨age, type, lid, adv, seq, links, mask, routers, cost⟩) hlens.1 hlens.2
  obtain ⟨Tl, hTl⟩ : ∃ T, tellB ⟨age, type, lid, adv, seq, links, mask, routers, cost⟩ = T := ⟨_, rfl⟩
  obtain ⟨Bs, hBs⟩ : ∃ B, headB ⟨age, type, lid, adv, seq, 0, 20 + (Tl.length : Int)⟩ ++ Tl = B := ⟨_, rfl⟩
  have hbase : baseB ⟨age, type, lid, adv, seq, links, mask, routers, cost⟩ = Bs := by unfold baseB; rw [hTl, ← hBs]
  have hBl : Bs.length = 20 + Tl.length := by rw [← hBs, List.length_append, headB_len]
  rw [hTl] at htl
  obtain ⟨N, hN⟩ : ∃ N, N = 20 + Tl.length := ⟨_, rfl⟩
  rw [← hN] at hBl
  obtain ⟨X, hX⟩ : ∃ X, flX (zed (Bs.drop 2) 14) (N - 2) 14 = X := ⟨_, rfl⟩
  obtain ⟨Y, hY⟩ : ∃ Y, flY (zed (Bs.drop 2) 14) (N - 2) 14 = Y := ⟨_, rfl⟩
  have lX : X < 255 := by rw [← hX]; exact flX_lt ..
  have lY : Y < 255 := by rw [← hY]; exact flY_lt ..
  have hput : putB ⟨age, type, lid, adv, seq, links, mask, routers, cost⟩ = (Bs.set 16 (UInt8.ofNat X)).set 17 (UInt8.ofNat Y) := by
    unfold putB; rw [hbase, hBl, hX, hY]
  have hputl : (putB ⟨age, type, lid, adv, seq, links, mask, routers, cost⟩).length = N := by rw [hput]; simp [hBl]
  rw [hputl, hput]
  have hN1 : 24 ≤ N := by omega
  have hN2 : N ≤ 504 := by omega
  have hTN : (Tl.length : Int) = (N : Int) - 20 := by omega
  have hTn2 : Tl.length ≤ 484 := htl.2
  have hTl' := Lib.hid hTl; have hBs' := Lib.hid hBs; have hBl' := Lib.hid hBl; have hX' := Lib.hid hX; have hY' := Lib.hid hY; have hN' := Lib.hid hN; have hTN' := Lib.hid hTN
  clear hTl hBs hBl hX hY hput hputl hbase htl hlens hN hTN
  have hB : Hid ((w.alloc (.cells #[.int .i64 age, .int .i64 type, .int .u32 lid, .int .u32 adv, .int .i64 seq, .slice p5 links.length c5, .int .u32 mask, .slice p7 routers.length c7, .int .i64 cost] 29)).rangeAt w.heap.size 0 [.int .i64 age, .int .i64 type, .int .u32 lid, .int .u32 adv, .int .i64 seq, .slice p5 links.length c5, .int .u32 mask, .slice p7 routers.length c7, .int .i64 cost]) := Lib.hid (new_rangeb w _ 29)
  have kB : Hid (Keeps (fun _ => False) w (w.alloc (.cells #[.int .i64 age, .int .i64 type, .int .u32 lid, .int .u32 adv, .int .i64 seq, .slice p5 links.length c5, .int .u32 mask, .slice p7 routers.length c7, .int .i64 cost] 29))) := Lib.hid ((Keeps.refl _ _).alloc _)
  have hsz : Hid (w.heap.size < (w.alloc (.cells #[.int .i64 age, .int .i64 type, .int .u32 lid, .int .u32 adv, .int .i64 seq, .slice p5 links.length c5, .int .u32 mask, .slice p7 routers.length c7, .int .i64 cost] 29)).heap.size) := Lib.hid (by simp)
  go_enter Try.func54, Try.ntmps54
  go_wp2_with ((with_reducible refine at_slot 6 ?_); refine wpList_load_mid rfl 29 (.tmp 1) rfl w.heap.size 0 rfl _ _ hB.out Try.underlying29 rfl lsaInfo ?_)
  generalize w.alloc (.cells #[.int .i64 age, .int .i64 type, .int .u32 lid, .int .u32 adv, .int .i64 seq, .slice p5 links.length c5, .int .u32 mask, .slice p7 routers.length c7, .int .i64 cost] 29) = wb at hB kB hsz ⊢
  refine (lsCanBe_any age type seq cost lid adv mask links routers p5 p7 c5 c7 true _ (Lib.hid (hl.out.keep kB.out)) (by omega) (by omega) hz).mono ?_
  rintro e w2 ⟨rfl, k2⟩
  have kB2 := Lib.hid (kB.out.trans k2)
  have hB2 := Lib.hid (k2.rangeAt hB.out id)
  have hsz2 : Hid (w.heap.size < w2.heap.size) := Lib.hid (Nat.lt_of_lt_of_le hsz.out k2.size)
  clear k2 kB hB hsz
  go_wp2_with ((with_reducible refine at_slot 9 ?_); refine wpList_load_mid rfl 29 (.tmp 1) rfl w.heap.size 0 rfl _ _ hB2.out Try.underlying29 rfl lsaInfo ?_)
  refine (lsTell_any age type seq cost lid adv mask links routers p5 p7 c5 c7 Tl _ (Lib.hid (hl.out.keep kB2.out)) (Lib.hid (hr.out.keep kB2.out)) (by omega) (by omega) hlok hrok hm hTl').mono ?_
  rintro e w3 ⟨pt, ct, rfl, hOt, k3⟩
  have kB3 := Lib.hid (kB2.out.trans k3)
  have hB3 := Lib.hid (k3.rangeAt hB2.out id)
  have hsz3 : Hid (w.heap.size < w3.heap.size) := Lib.hid (Nat.lt_of_lt_of_le hsz2.out k3.size)
  have hOt' := Lib.hid hOt.bytes
  have b0 := rangeAt_cell hB3.out 0 (.int .i64 age) rfl
  have b4 := rangeAt_cell hB3.out 4 (.int .i64 seq) rfl
  have hkey : Hid (w3.rangeAt w.heap.size 1 [.int .i64 type, .int .u32 lid, .int .u32 adv]) := Lib.hid (fun j u hu => hB3.out (1 + j) u (by
    match j, hu with
    | 0, hu => exact hu
    | 1, hu => exact hu
    | 2, hu => exact hu
    | j + 3, hu => simp at hu) |> fun h => by rw [Nat.zero_add] at h; exact h)
  clear hOt k3 kB2 hB2 hsz2
  go_wp2_with ((with_reducible refine at_slot 14 ?_); refine wpList_load_mid rfl 25 (.tmp 13) rfl w.heap.size 1 rfl _ _ hkey.out Try.underlying25 rfl keyInfo ?_)
  refine (lsPutHeader_any age type seq (20 + (Tl.length : Int)) lid adv 0 hid hadv (by omega) _).mono ?_
  rintro e w4 ⟨ph, ch, rfl, hOh, k4⟩
  have hhl := headB_len ⟨age, type, lid, adv, seq, 0, 20 + (Tl.length : Int)⟩
  obtain ⟨Hd, hHd⟩ : ∃ H, headB ⟨age, type, lid, adv, seq, 0, 20 + (Tl.length : Int)⟩ = H := ⟨_, rfl⟩
  rw [hHd] at hhl hOh
  rw [hHd, hhl]
  rw [hhl] at hOh
  have hBs2 : Hid (Hd ++ Tl = Bs) := Lib.hid (by rw [← hHd]; exact hBs'.out)
  have hhl' := Lib.hid hhl
  have kB4 := Lib.hid (kB3.out.trans k4)
  have hOt4 := Lib.hid (hOt'.out.keep k4)
  have hOh' := Lib.hid (hOh.older (w0 := w) (by have := kB3.out.size; exact this))
  clear hhl hOh k4 hHd kB3 hB3 hsz3 hkey b0 b4 hOt' hBs'
  go_wp2_with ((with_reducible refine at_slot 24 ?_); refine wpList_append_b rfl (.tmp 22) (.tmp 23) 71 rfl i0 Try.underlying71 hi0 hz0 hz1 hz2 w _ Hd rfl (hv20 hhl'.out hOh').out _ rfl Tl hOt4.out (by rw [hhl'.out]; omega) ?_; intro q d w5 hO5 hg5; have hO6 := append_name hhl'.out hN'.out hBs2.out hO5; have k6 := Lib.hid ((hv20 hhl'.out hOh').out.keeps kB4.out hg5.out); clear hO5 hg5; rw [show Hd.length + Tl.length = N by rw [hhl'.out]; exact hN'.out.symm]; obtain ⟨g, hq, hg0, -, -⟩ := hO6.out.writes (by rw [hBl'.out]; omega); subst hq; have hg0' := Lib.hid hg0; clear hg0; have hcap := hO6.out.cap)
  refine (suFletcher_n g 2 (d - 2) (Bs.drop 2) (N - 2) 14 (Lib.hid (by rw [List.length_drop, hBl'.out])) (by omega) (by omega) (by omega) X Y _ (Lib.hid (own_drop hO6.out 2)) hX' hY').mono ?_
  rintro e w7 ⟨rfl, k7⟩
  have hO7 := Lib.hid (hO6.out.keep k7 (fun _ _ f => f))
  have kB7 := Lib.hid (k6.out.trans k7)
  clear k7 hO6 k6
  obtain ⟨g', e', -, hcell, hset⟩ := hO7.out.writes (by rw [hBl'.out]; omega)
  injection e' with e'; injection e' with e'; subst e'
  have c16 := (hcell 16 (by rw [hBl'.out]; omega)).1
  have f16 := (hcell 16 (by rw [hBl'.out]; omega)).2
  have c17 := (hcell 17 (by rw [hBl'.out]; omega)).1
  have f17 := (hcell 17 (by rw [hBl'.out]; omega)).2
  have eX : (UInt8.ofNat X).toNat = X := by simp; omega
  have eY : (UInt8.ofNat Y).toNat = Y := by simp; omega
  have hs1 := hset 16 (UInt8.ofNat X)
  rw [eX] at hs1
  obtain ⟨g2, e2, -, -, hset2⟩ := hs1.writes (by simp; rw [hBl'.out]; omega)
  injection e2 with e2; injection e2 with e2; subst e2
  have hs2 := hset2 17 (UInt8.ofNat Y)
  rw [eY] at hs2
  have hk8 : Keeps (fun _ => False) w ((w7.setCell ⟨g, 16, none⟩ (.int .u8 X)).setCell ⟨g, 17, none⟩ (.int .u8 Y)) := (kB7.out.setCell (p := ⟨g, 16, none⟩) (.inr hg0'.out) _).setCell (p := ⟨g, 17, none⟩) (.inr hg0'.out) _
  have hs2' := Lib.hid hs2; have hk8' := Lib.hid hk8
  clear hs1 hset hset2 hcell hs2 hk8 eX eY
  go_wp2_with fail
  go_ret2
  exact ⟨_, d, rfl, hs2'.out, hk8'.out⟩
end Go.Proofs.Ytdaongflpllfhaa
/- lsa.Head, walked. -/
namespace Go.Proofs.Ytdaongflpllfhaa
open Go.RowKit

def sub (x : List UInt8) (i n : Nat) : List UInt8 := (x.drop i).take n
theorem sub_len {x : List UInt8} {i n : Nat} (h : i + n ≤ x.length) : (sub x i n).length = n := by unfold sub; simp; omega
/-- the number of 32 bits, with a sign -/
def sgn32 (n : Nat) : Int := if n < 2147483648 then (n : Int) else (n : Int) - 4294967296
/-- what 20 bytes tell -/
def headOf (x : List UInt8) : HeadD := ⟨(beVal (sub x 0 2) : Nat), ((x.getD 3 0).toNat : Int), beVal (sub x 4 4), beVal (sub x 8 4), sgn32 (beVal (sub x 12 4)), beVal (sub x 16 2), (beVal (sub x 18 2) : Nat)⟩
theorem bytes_sub {w : World} {g o c : Nat} {l : List UInt8} (h : w.rangeAt g o (l.map bv)) (hc : l.length ≤ c) (i n : Nat) (hi : i + n ≤ l.length) :
    BytesAt w (.slice (some ⟨g, o + i, none⟩) n (c - i)) (sub l i n) := by
  have := range_part h i n
  exact BytesAt.of (sub_len hi) (by omega) this
theorem headInfo : (Try.prog.info? 82).map (·.size) = some 7 := by kernel_rfl

theorem sub_lt {x : List UInt8} {i n : Nat} (h : i + n ≤ x.length) : beVal (sub x i n) < 256 ^ n := by
  have := beVal_lt (sub x i n)
  rwa [sub_len h] at this
theorem sgn32_wrap (n : Nat) (h : n < 4294967296) : IntKind.i32.wrap (n : Int) = sgn32 n := by
  unfold IntKind.wrap sgn32
  have h1 : IntKind.i32.signed = true := rfl
  have h2 : (2 : Int) ^ IntKind.i32.bits = 4294967296 := rfl
  have h3 : (2 : Int) ^ (IntKind.i32.bits - 1) = 2147483648 := rfl
  simp only [h1, h2, h3, Bool.true_and, ge_iff_le, decide_eq_true_eq]
  split <;> split <;> omega
theorem sgn32_lo (n : Nat) (h : n < 4294967296) : -2147483648 ≤ sgn32 n := by unfold sgn32; split <;> omega
theorem sgn32_hi (n : Nat) (h : n < 4294967296) : sgn32 n ≤ 2147483647 := by unfold sgn32; split <;> omega
theorem wiRead_still (sl : Value) (l : List UInt8) (n : Nat) (hl : l.length ≤ 4) (w : World) (h : Hid (BytesAt w sl l)) (hn : Hid (beVal l = n)) :
    Calls Try.prog 49 #[sl] w fun e w' => e = .returned (.int .u32 n) ∧ w' = w :=
  (wiRead_r sl l n hl w h hn).mono fun e w' ⟨he, hw⟩ => ⟨he, hw.symm⟩
theorem head_one (a b c d x f g : Int) : (#[.int .i64 a, .int .i64 b, .int .u32 c, .int .u32 d, .int .i64 x, .int .u16 f, .int .i64 g] : Array Value).all (·.oneCell') = true := by simp; exact ⟨rfl, rfl, rfl, rfl, rfl, rfl, rfl⟩
set_option maxRecDepth 100000 in
set_option maxHeartbeats 4000000 in
theorem lsHead_yes (g o c : Nat) (l : List UInt8) (hl : 20 ≤ l.length) (hl2 : l.length ≤ 9223372036854775807) (hc : l.length ≤ c) (w : World) (hr : Hid (w.rangeAt g o (l.map bv))) :
    Calls Try.prog 55 #[.slice (some ⟨g, o, none⟩) l.length c] w fun e w' => e = .returned (.tuple #[headV (headOf l), .int .i64 0]) ∧ Keeps (fun _ => False) w w' := by
  obtain ⟨H, hQ⟩ : ∃ H, headOf l = H := ⟨_, rfl⟩
  rw [hQ]
  have i2 : (2 : Int) ≤ c := by omega
  have i8 : (8 : Int) ≤ c := by omega
  have i12 : (12 : Int) ≤ c := by omega
  have i16 : (16 : Int) ≤ c := by omega
  have i18 : (18 : Int) ≤ c := by omega
  have i20 : (20 : Int) ≤ c := by omega
  have j4 : ¬ c = 4 := by omega
  have j8 : ¬ c = 8 := by omega
  have j12 : ¬ c = 12 := by omega
  have j16 : ¬ c = 16 := by omega
  have j18 : ¬ c = 18 := by omega
  have i3 : (3 : Int) < l.length := by omega
  have hk0 : Hid (Keeps (fun _ => False) w (w.alloc (.cells #[.int .i64 0, .int .i64 0, .int .u32 0, .int .u32 0, .int .i64 0, .int .u16 0, .int .i64 0] 82))) := Lib.hid ((Keeps.refl _ _).alloc _)
  have hb0 : Hid (World.blockAt (w.alloc (.cells #[.int .i64 0, .int .i64 0, .int .u32 0, .int .u32 0, .int .i64 0, .int .u16 0, .int .i64 0] 82)) w.heap.size 82 7) := Lib.hid ⟨_, heap_alloc_last w _, rfl⟩
  go_enter Try.func55, Try.ntmps55
  go_upto_region 3 with fail
  generalize w.alloc (.cells #[.int .i64 0, .int .i64 0, .int .u32 0, .int .u32 0, .int .i64 0, .int .u16 0, .int .i64 0] 82) = w0 at hk0 hb0 ⊢
  have hr0 := Lib.hid (hk0.out.rangeAt hr.out id)
  have c3 := drop_cell hr0.out 3 (by omega)
  obtain ⟨n0, hn0⟩ : ∃ n, beVal (sub l 0 2) = n := ⟨_, rfl⟩
  obtain ⟨n4, hn4⟩ : ∃ n, beVal (sub l 4 4) = n := ⟨_, rfl⟩
  obtain ⟨n8, hn8⟩ : ∃ n, beVal (sub l 8 4) = n := ⟨_, rfl⟩
  obtain ⟨n12, hn12⟩ : ∃ n, beVal (sub l 12 4) = n := ⟨_, rfl⟩
  obtain ⟨n16, hn16⟩ : ∃ n, beVal (sub l 16 2) = n := ⟨_, rfl⟩
  obtain ⟨n18, hn18⟩ : ∃ n, beVal (sub l 18 2) = n := ⟨_, rfl⟩
  have b0 := sub_lt (x := l) (i := 0) (n := 2) (by omega)
  have b4 := sub_lt (x := l) (i := 4) (n := 4) (by omega)
  have b8 := sub_lt (x := l) (i := 8) (n := 4) (by omega)
  have b12 := sub_lt (x := l) (i := 12) (n := 4) (by omega)
  have b16 := sub_lt (x := l) (i := 16) (n := 2) (by omega)
  have b18 := sub_lt (x := l) (i := 18) (n := 2) (by omega)
  rw [hn0] at b0; rw [hn4] at b4; rw [hn8] at b8; rw [hn12] at b12; rw [hn16] at b16; rw [hn18] at b18
  simp only [show (256 : Nat) ^ 2 = 65536 from rfl, show (256 : Nat) ^ 4 = 4294967296 from rfl] at b0 b4 b8 b12 b16 b18
  have b3 := (l[3]'(by omega)).toNat_lt
  have hs32 : IntKind.i32.wrap (n12 : Int) = sgn32 n12 := sgn32_wrap n12 b12
  have hs1 := sgn32_lo n12 b12
  have hs2 := sgn32_hi n12 b12
  obtain ⟨q12, hq12⟩ : ∃ q, sgn32 n12 = q := ⟨_, rfl⟩
  rw [hq12] at hs32 hs1 hs2
  have hfin : headOf l = ⟨n0, ((l[3]'(by omega)).toNat : Int), n4, n8, q12, n16, n18⟩ := by
    unfold headOf
    rw [hn0, hn4, hn8, hn12, hn16, hn18, hq12, List.getD_eq_getElem?_getD, List.getElem?_eq_getElem (by omega)]; rfl
  rw [hfin] at hQ
  have v0 : IntKind.i64.wrap (n0 : Int) = (n0 : Int) := IntWalk.i64_in _ (by omega)
  have v3 : IntKind.i64.wrap ((l[3]'(by omega)).toNat : Int) = ((l[3]'(by omega)).toNat : Int) := IntWalk.i64_in _ (by omega)
  have v12 : IntKind.i64.wrap q12 = q12 := IntWalk.i64_in _ (by omega)
  have v16 : IntKind.u16.wrap (n16 : Int) = (n16 : Int) := by rw [u16_wrap]; omega
  have v18 : IntKind.i64.wrap (n18 : Int) = (n18 : Int) := IntWalk.i64_in _ (by omega)
  have hrd := Lib.hid (((Keeps.refl (fun _ => False) w0).drew).rangeAt hr0.out id)
  have k0 := Lib.hid (bytes_sub hrd.out hc 0 2 (by omega))
  have k4 := Lib.hid (bytes_sub hrd.out hc 4 4 (by omega))
  have k8 := Lib.hid (bytes_sub hrd.out hc 8 4 (by omega))
  have k12 := Lib.hid (bytes_sub hrd.out hc 12 4 (by omega))
  have k16 := Lib.hid (bytes_sub hrd.out hc 16 2 (by omega))
  have k18 := Lib.hid (bytes_sub hrd.out hc 18 2 (by omega))
  rw [Nat.add_zero, Nat.sub_zero] at k0
  have s0 : (sub l 0 2).length ≤ 4 := by rw [sub_len (by omega)]; omega
  have s4 : (sub l 4 4).length ≤ 4 := by rw [sub_len (by omega)]; omega
  have s8 : (sub l 8 4).length ≤ 4 := by rw [sub_len (by omega)]; omega
  have s12 : (sub l 12 4).length ≤ 4 := by rw [sub_len (by omega)]; omega
  have s16 : (sub l 16 2).length ≤ 4 := by rw [sub_len (by omega)]; omega
  have s18 : (sub l 18 2).length ≤ 4 := by rw [sub_len (by omega)]; omega
  have hn0' := Lib.hid hn0; have hn4' := Lib.hid hn4; have hn8' := Lib.hid hn8; have hn12' := Lib.hid hn12; have hn16' := Lib.hid hn16; have hn18' := Lib.hid hn18
  clear hn0 hn4 hn8 hn12 hn16 hn18 hfin hq12
  refine wp_region_still_tail 29 (by kernel_rfl) (by kernel_rfl) ?_
  simp only [List.take_succ_cons, List.take_zero, List.drop_succ_cons, List.drop_zero]
  repeat still_step
  still_call (wiRead_still _ _ n0 s0 _ k0 hn0')
  repeat still_step
  still_call (wiRead_still _ _ n4 s4 _ k4 hn4')
  repeat still_step
  still_call (wiRead_still _ _ n8 s8 _ k8 hn8')
  repeat still_step
  still_call (wiRead_still _ _ n12 s12 _ k12 hn12')
  repeat still_step
  still_call (wiRead_still _ _ n16 s16 _ k16 hn16')
  repeat still_step
  still_call (wiRead_still _ _ n18 s18 _ k18 hn18')
  repeat still_step
  refine wpStill_nil ?_
  change wpList _ _ _ _ _ w0.drew
  clear v0 v3 v12 v16 v18 j4 j8 j12 j16 j18 hs32 i2 i8 i12 i16 i18 i20 i3 k0 k4 k8 k12 k16 k18 c3
  have hth := Lib.hid (hb0.out.keep ((Keeps.refl (fun _ => False) _).drew) id)
  refine (wpList_store_mid rfl 82 (.tmp 2) (.tmp 36) rfl w.heap.size 0 #[.int .i64 n0, .int .i64 ((l[3]'(by omega)).toNat : Nat), .int .u32 n4, .int .u32 n8, .int .i64 q12, .int .u16 n16, .int .i64 n18] rfl rfl (hth.out.there 0 7 (by omega)) headInfo (head_one _ _ _ _ _ _ _) ?_)
  have hk9 : Hid (Keeps (fun _ => False) w (w0.drew.setCells w.heap.size 0 [.int .i64 n0, .int .i64 ((l[3]'(by omega)).toNat : Nat), .int .u32 n4, .int .u32 n8, .int .i64 q12, .int .u16 n16, .int .i64 n18])) := Lib.hid (Keeps.setCells (.inr (Nat.le_refl _)) _ _ _ hk0.out.drew)
  have hr9 : Hid ((w0.drew.setCells w.heap.size 0 [.int .i64 n0, .int .i64 ((l[3]'(by omega)).toNat : Nat), .int .u32 n4, .int .u32 n8, .int .i64 q12, .int .u16 n16, .int .i64 n18]).rangeAt w.heap.size 0 [.int .i64 n0, .int .i64 ((l[3]'(by omega)).toNat : Nat), .int .u32 n4, .int .u32 n8, .int .i64 q12, .int .u16 n16, .int .i64 n18]) := Lib.hid (World.rangeAt_setCells_same _ _ _ _ (hth.out.there 0 7 (by omega)))
  change wpList _ _ _ _ _ (w0.drew.setCells w.heap.size 0 [.int .i64 n0, .int .i64 ((l[3]'(by omega)).toNat : Nat), .int .u32 n4, .int .u32 n8, .int .i64 q12, .int .u16 n16, .int .i64 n18])
  generalize w0.drew.setCells w.heap.size 0 [.int .i64 n0, .int .i64 ((l[3]'(by omega)).toNat : Nat), .int .u32 n4, .int .u32 n8, .int .i64 q12, .int .u16 n16, .int .i64 n18] = w9 at hk9 hr9 ⊢
  go_wp2_with fail
  have e0 := rangeAt_cell hr9.out 0 _ rfl
  have e1 := rangeAt_cell hr9.out 1 _ rfl
  have e2 := rangeAt_cell hr9.out 2 _ rfl
  have e3 := rangeAt_cell hr9.out 3 _ rfl
  have e4 := rangeAt_cell hr9.out 4 _ rfl
  have e5 := rangeAt_cell hr9.out 5 _ rfl
  have e6 := rangeAt_cell hr9.out 6 _ rfl
  refine bodyPost_ret (v := .tuple #[.agg #[.int .i64 n0, .int .i64 ((l[3]'(by omega)).toNat : Nat), .int .u32 n4, .int .u32 n8, .int .i64 q12, .int .u16 n16, .int .i64 n18], .int .i64 0]) (by simp [results, Try.results55, go_sem, e0, e1, e2, e3, e4, e5, e6]) rfl ⟨?_, hk9.out⟩
  rw [← hQ]; rfl
set_option maxRecDepth 100000 in
theorem lsHead_no (p : Option Addr) (n c : Nat) (hn : n < 20) (w : World) :
    Calls Try.prog 55 #[.slice p n c] w fun e w' => e = .returned (.tuple #[.agg #[.int .i64 0, .int .i64 0, .int .u32 0, .int .u32 0, .int .i64 0, .int .u16 0, .int .i64 0], .int .i64 4]) ∧ Keeps (fun _ => False) w w' := by
  go_enter Try.func55, Try.ntmps55
  go_wp2_with fail
  refine bodyPost_ret (v := .tuple #[.agg #[.int .i64 0, .int .i64 0, .int .u32 0, .int .u32 0, .int .i64 0, .int .u16 0, .int .i64 0], .int .i64 4]) (by simp [results, Try.results55, go_sem]) rfl ⟨rfl, (Keeps.refl _ _).alloc _⟩
end Go.Proofs.Ytdaongflpllfhaa
/- wire.Read of bytes of whatever count, ReadAll; lsa.readLinks: walked. -/
namespace Go.Proofs.Ytdaongflpllfhaa
open Go.RowKit

theorem or_low32m (m : Nat) (c : UInt8) : bits .or .u32 (((m * 256 % 4294967296 : Nat) : Int)) (c.toNat : Int) = (((m * 256 + c.toNat) % 4294967296 : Nat) : Int) := by
  have hc := c.toNat_lt
  have h := u32_or_nat (m * 256 % 4294967296) c.toNat (Nat.mod_lt _ (by omega)) (by omega)
  rw [show m * 256 % 4294967296 = (m % 16777216) * 256 by omega, or_low] at h
  rw [show m * 256 % 4294967296 = (m % 16777216) * 256 by omega, h]
  omega
set_option maxHeartbeats 1000000 in
theorem wiRead_mod (sl : Value) (l : List UInt8) (hl : l.length ≤ 9223372036854775807) (w : World) (h : Hid (BytesAt w sl l)) :
    Calls Try.prog 49 #[sl] w fun e w' => e = .returned (.int .u32 (beVal l % 4294967296 : Nat)) ∧ w = w' := by
  obtain ⟨p, c, rfl, -, -, hb⟩ := h.out
  have hb' := Lib.hid hb; clear hb h
  go_enter Try.func49, Try.ntmps49
  go_wp2
  go_loop [3, 8] (fun nv iv => ∃ k : Nat, k ≤ l.length ∧ nv = .int .u32 (beVal (l.take k) % 4294967296 : Nat) ∧ iv = .int .i64 k) (fun _ iv => l.length - (intOf iv).toNat)
  case atStart => exact ⟨0, by omega, by simp [beVal], rfl⟩
  case round =>
    obtain ⟨k, hk, rfl, rfl⟩ := hrel
    by_cases hlk : k < l.length
    · obtain ⟨g, o, rfl, hr⟩ := hb'.out (by omega)
      have hc := drop_cell hr k hlk
      have hs : beVal (l.take (k + 1)) % 4294967296 = (beVal (l.take k) % 4294967296 * 256 + (l[k]).toNat) % 4294967296 := by
        rw [List.take_succ_eq_append_getElem (by omega), beVal_snoc]; omega
      have hs' := Lib.hid hs; clear hs
      have hx := (l[k]).toNat_lt
      obtain ⟨m, hmm⟩ : ∃ m, m = beVal (l.take k) % 4294967296 := ⟨_, rfl⟩
      have hm : m < 4294967296 := by rw [hmm]; exact Nat.mod_lt _ (by omega)
      rw [← hmm] at hs' ⊢
      have ho := or_low32m m l[k]
      rw [show ((m * 256 % 4294967296 : Nat) : Int) = (m : Int) * 256 % 4294967296 by omega] at ho
      clear hmm hr
      go_wp2
      exact ⟨⟨k + 1, by omega, by rw [hs'.out]; go_num, by go_num⟩, by simp [intOf]; omega⟩
    · obtain rfl : k = l.length := by omega
      rw [List.take_length]
      go_wp2
      go_ret
      exact ⟨rfl, rfl⟩
/-- numbers of the call's own -/
def OwnN (w0 w : World) (v : Value) (ns : List Nat) : Prop :=
  w.ownsRow 0 23 1 v ns.length (ns.map nv) ∧ (∀ k, v.ownBlock = some k → w0.heap.size ≤ k) ∧ w0.heap.size ≤ w.heap.size
theorem OwnN.nil (w0 w : World) (h : w0.heap.size ≤ w.heap.size) : OwnN w0 w (.slice none 0 0) [] := ⟨⟨rfl, .inl ⟨rfl, rfl⟩⟩, by simp [Value.ownBlock], h⟩
theorem OwnN.slice {w0 w : World} {v : Value} {xs : List Nat} (h : OwnN w0 w v xs) : ∃ p c, v = .slice p xs.length c := ownsRow_slice h.1
theorem OwnN.keep {F : Nat → Prop} {w0 w w' : World} {v : Value} {xs : List Nat} (h : OwnN w0 w v xs) (k : Keeps F w w') (hF : ∀ i, v.ownBlock = some i → ¬ F i) : OwnN w0 w' v xs :=
  ⟨k.ownsRow h.1 hF, h.2.1, Nat.le_trans h.2.2 k.size⟩
theorem OwnN.at {w0 w : World} {v : Value} {x : List Nat} (h : OwnN w0 w v x) : NumsAt w v x := by
  obtain ⟨p, c, rfl⟩ := h.slice
  rcases h.1.2 with ⟨e, h2⟩ | ⟨g, cap, cur, he, _, _, hle, _⟩
  · injection e with e1 e2 e3; subst e1; subst e3
    exact ⟨none, 0, rfl, fun _ => rfl, by omega, fun h0 => by omega⟩
  · injection he with e1 e2 e3
    subst e1; subst e3
    refine ⟨_, _, rfl, fun h => (by cases h), hle, fun h0 => ⟨g, 0, rfl, fun j u hu => ?_⟩⟩
    have := h.1.cells (g := g) rfl j u hu
    rw [Addr.add_mid] at this
    exact this
theorem OwnN.push {w0 w wb w1 : World} {v : Value} {xs : List Nat} (h : OwnN w0 wb v xs) (x : Nat) {p : Option Addr} {c : Nat}
    (ho : wb.grownBy w1 v.ownBlock) (h2 : w1.ownsRow 0 23 1 (.slice p (xs.length + 1) c) (xs.length + 1) (xs.map nv ++ [nv x]))
    (hs : ∀ k, (Value.slice p (xs.length + 1) c).ownBlock = some k → v.ownBlock = some k ∨ wb.heap.size ≤ k) (hk : Keeps (fun _ => False) w0 wb) (_ : w = w) :
    OwnN w0 w1 (.slice p (xs.length + 1) c) (xs ++ [x]) ∧ Keeps (fun _ => False) w0 w1 := by
  refine ⟨⟨by simpa using h2, fun k e => ?_, Nat.le_trans h.2.2 ho.size⟩, hk.grown ho (fun k e => .inr (h.2.1 k e))⟩
  rcases hs k e with e | e
  · exact h.2.1 k e
  · exact Nat.le_trans h.2.2 e
def readN (l : List UInt8) (j : Nat) : List Nat := (List.range j).map fun i => beVal (sub l (4 * i) 4)
theorem readN_len (l : List UInt8) (j : Nat) : (readN l j).length = j := by unfold readN; simp
theorem readN_succ (l : List UInt8) (j : Nat) : readN l (j + 1) = readN l j ++ [beVal (sub l (4 * j) 4)] := by unfold readN; simp [List.range_succ]
set_option maxRecDepth 100000 in
set_option maxHeartbeats 1000000 in
theorem wiReadAll_any (p : Option Addr) (c : Nat) (l : List UInt8) (hl : l.length ≤ 1000000) (w : World) (h : Hid (BytesAt w (.slice p l.length c) l)) :
    Calls Try.prog 104 #[.slice p l.length c] w fun e w' => ∃ q d, e = .returned (.slice q (l.length / 4) d) ∧ OwnN w w' (.slice q (l.length / 4) d) (readN l (l.length / 4)) ∧ Keeps (fun _ => False) w w' := by
  obtain ⟨i0, hi0, hz0, hz1, hz2⟩ := info_parts u32InfoAll
  obtain ⟨p', c', e', -, hc, hb⟩ := h.out
  injection e' with e1 e2 e3; subst e1; subst e3
  have hb' := Lib.hid hb; clear hb h
  go_enter Try.func104, Try.ntmps104
  go_wp2
  go_loopw [0, 3] (fun bw nw wr => ∃ (j : Nat) (pp : Option Addr), 4 * j ≤ l.length ∧ bw = .slice pp (l.length - 4 * j) (c - 4 * j) ∧ Hid (4 * j < l.length → ∃ g o, pp = some ⟨g, o + 4 * j, none⟩ ∧ w.rangeAt g o (l.map bv)) ∧ Hid (OwnN w wr nw (readN l j) ∧ Keeps (fun _ => False) w wr)) (fun bw _ _ => match bw with | .slice _ n _ => n | _ => 0)
  case atStart => exact ⟨0, p, by omega, rfl, Lib.hid (fun h => by obtain ⟨g, o, rfl, hr⟩ := hb'.out (by omega); exact ⟨g, o, rfl, hr⟩), Lib.hid ⟨OwnN.nil _ _ (Nat.le_refl _), Keeps.refl _ _⟩⟩
  case round =>
    obtain ⟨j, pp, hj, rfl, hpp, hO⟩ := hrel
    obtain ⟨q, d, hq⟩ := hO.out.1.slice
    rw [readN_len] at hq
    subst hq
    by_cases h4 : 4 * j + 4 ≤ l.length
    · obtain ⟨g, o, rfl, hr⟩ := hpp.out (by omega)
      have hrw : Hid (wr.rangeAt g o (l.map bv)) := Lib.hid (hO.out.2.rangeAt hr id)
      obtain ⟨n, hn⟩ : ∃ n, beVal (sub l (4 * j) 4) = n := ⟨_, rfl⟩
      have hs4 : (sub l (4 * j) 4).length ≤ 4 := by rw [sub_len (by omega)]; omega
      have hbs := Lib.hid (bytes_sub hrw.out hc (4 * j) 4 (by omega))
      have hr0 := Lib.hid hr
      have hrs := readN_succ l j
      rw [hn] at hrs
      have hrs' := Lib.hid hrs; have hn' := Lib.hid hn
      have hOl := Lib.hid (hO.out.1.keep ((Keeps.refl (fun _ => False) _).alloc (.cells #[.int .u32 n] 23)) (fun _ _ f => f))
      have hKl := Lib.hid (hO.out.2.alloc (.cells #[.int .u32 n] 23))
      have hrl := Lib.hid (readN_len l j)
      clear hr hrs hn hO hpp
      go_wp2_with fail
      refine (wiRead_r _ (sub l (4 * j) 4) n hs4 _ hbs hn').mono ?_
      rintro e w' ⟨rfl, rfl⟩
      go_wp2_with ((with_reducible refine at_slot 14 ?_); refine wpList_append_sep rfl (.tmp 9) (.tmp 13) 27 rfl 23 i0 (.int .u32 0) 1 4 Try.underlying27 hi0 hz0 hz1 hz2 rfl (by decide) _ j ((readN l j).map nv) rfl (by have := hOl.out.1; rw [hrl.out] at this; exact this) ⟨wr.heap.size, 0, none⟩ 1 1 [.int .u32 n] rfl rfl (cells_one rfl _ _) (by simp [Value.oneCell']) (by unfold maxLen; omega) (by omega) ?_; intro q2 d2 w1 ho1 hg1 hs1; have ho := Lib.hid ho1; clear ho1; have hg := Lib.hid hg1; clear hg1)
      have hR := OwnN.push (w := w) hOl.out n (p := q2) (c := d2) hg.out (by rw [hrl.out]; exact ho.out) (by rw [hrl.out]; exact hs1.out) hKl.out rfl
      rw [hrl.out] at hR
      refine ⟨⟨j + 1, if c - 4 * j = 4 then some ⟨g, o + 4 * j, none⟩ else some ⟨g, o + 4 * j + 4, none⟩, by omega, ?_, Lib.hid (fun h => ⟨g, o, ?_, hr0.out⟩), Lib.hid ⟨by rw [hrs'.out]; exact hR.1, hR.2⟩⟩, ?_⟩
      · rw [show l.length - 4 * (j + 1) = l.length - 4 * j - 4 by omega, show c - 4 * (j + 1) = c - 4 * j - 4 by omega]
      · rw [if_neg (by omega)]; rfl
      · show l.length - 4 * j - 4 < l.length - 4 * j; omega
    · have hj2 : l.length / 4 = j := by omega
      have hO' := Lib.hid hO.out
      clear hO hpp
      go_wp2_with fail
      go_ret
      rw [hj2]
      exact ⟨q, d, rfl, hO'.out.1, hO'.out.2⟩
end Go.Proofs.Ytdaongflpllfhaa
/- lsa.readLinks, walked. -/
namespace Go.Proofs.Ytdaongflpllfhaa
open Go.RowKit

theorem linkInfoAll : (Try.prog.info? 70).map (fun i => (i.zero, i.size, i.bytes)) = some (some (.agg #[.int .u32 0, .int .u32 0, .int .i64 0, .int .i64 0]), 4, 24) := by kernel_rfl
def linkCells (ls : List LinkD) : List Value := ls.flatMap linkVals
theorem linkCells_len (ls : List LinkD) : (linkCells ls).length = ls.length * 4 := by
  induction ls with
  | nil => rfl
  | cons n ns ih => unfold linkCells at *; rw [List.flatMap_cons, List.length_append, ih, List.length_cons]; simp [linkVals]; omega
theorem linkCells_snoc (ls : List LinkD) (l : LinkD) : linkCells (ls ++ [l]) = linkCells ls ++ linkVals l := by unfold linkCells; simp
theorem linkCells_get (ls : List LinkD) : ∀ (i : Nat) (l : LinkD), ls[i]? = some l → ∀ j, j < 4 → (linkCells ls)[i * 4 + j]? = (linkVals l)[j]? := by
  induction ls with
  | nil => intro i l h; simp at h
  | cons n ns ih =>
    intro i l h j hj
    have e : linkCells (n :: ns) = linkVals n ++ linkCells ns := by unfold linkCells; rw [List.flatMap_cons]
    have h4 : (linkVals n).length = 4 := rfl
    rw [e, List.getElem?_append, h4]
    cases i with
    | zero => simp at h; subst h; rw [if_pos (by omega)]; simp
    | succ i => rw [if_neg (by omega)]; rw [← ih i l (by simpa using h) j hj]; congr 1; omega
/-- links of the call's own -/
def OwnL (w0 w : World) (v : Value) (ls : List LinkD) : Prop :=
  w.ownsRow 0 70 4 v ls.length (linkCells ls) ∧ (∀ k, v.ownBlock = some k → w0.heap.size ≤ k) ∧ w0.heap.size ≤ w.heap.size
theorem OwnL.nil (w0 w : World) (h : w0.heap.size ≤ w.heap.size) : OwnL w0 w (.slice none 0 0) [] := ⟨⟨rfl, .inl ⟨rfl, rfl⟩⟩, by simp [Value.ownBlock], h⟩
theorem OwnL.slice {w0 w : World} {v : Value} {xs : List LinkD} (h : OwnL w0 w v xs) : ∃ p c, v = .slice p xs.length c := ownsRow_slice h.1
theorem OwnL.keep {F : Nat → Prop} {w0 w w' : World} {v : Value} {xs : List LinkD} (h : OwnL w0 w v xs) (k : Keeps F w w') (hF : ∀ i, v.ownBlock = some i → ¬ F i) : OwnL w0 w' v xs :=
  ⟨k.ownsRow h.1 hF, h.2.1, Nat.le_trans h.2.2 k.size⟩
theorem OwnL.at {w0 w : World} {v : Value} {x : List LinkD} (h : OwnL w0 w v x) : LinksAt w v x := by
  obtain ⟨p, c, rfl⟩ := h.slice
  rcases h.1.2 with ⟨e, h2⟩ | ⟨g, cap, cur, he, _, _, hle, _⟩
  · injection e with e1 e2 e3; subst e1; subst e3
    exact ⟨none, 0, rfl, fun _ => rfl, by omega, fun h0 => by omega⟩
  · injection he with e1 e2 e3
    subst e1; subst e3
    refine ⟨_, _, rfl, fun h => (by cases h), hle, fun h0 => ⟨g, 0, rfl, fun i l hl j u hu => ?_⟩⟩
    have hj : j < 4 := by have := (List.getElem?_eq_some_iff.1 hu).1; simpa [linkVals] using this
    have := h.1.cells (g := g) rfl (i * 4 + j) u (by rw [linkCells_get x i l hl j hj]; exact hu)
    rw [Addr.add_mid] at this
    rw [Nat.zero_add]; rw [Nat.zero_add] at this; exact this
theorem OwnL.push {w0 wb w1 : World} {v : Value} {xs : List LinkD} (h : OwnL w0 wb v xs) (x : LinkD) {p : Option Addr} {c : Nat}
    (ho : wb.grownBy w1 v.ownBlock) (h2 : w1.ownsRow 0 70 4 (.slice p (xs.length + 1) c) (xs.length + 1) (linkCells xs ++ linkVals x))
    (hs : ∀ k, (Value.slice p (xs.length + 1) c).ownBlock = some k → v.ownBlock = some k ∨ wb.heap.size ≤ k) (hk : Keeps (fun _ => False) w0 wb) :
    OwnL w0 w1 (.slice p (xs.length + 1) c) (xs ++ [x]) ∧ Keeps (fun _ => False) w0 w1 := by
  refine ⟨⟨by rw [linkCells_snoc]; simpa using h2, fun k e => ?_, Nat.le_trans h.2.2 ho.size⟩, hk.grown ho (fun k e => .inr (h.2.1 k e))⟩
  rcases hs k e with e | e
  · exact h.2.1 k e
  · exact Nat.le_trans h.2.2 e
theorem linkVals_one (l : LinkD) : ∀ u ∈ linkVals l, u.oneCell' = true := by
  intro u hu; simp [linkVals] at hu; rcases hu with rfl | rfl | rfl | rfl <;> rfl
/-- a link behind links of the call's own: one operation -/
theorem wp_append_l {P : Program} {w : World} {o : Oper} {a : Act} {K : Act → World → Prop} {Q : Exit → Act → World → Prop} (s x : Operand) (t : TypeId)
    (ho : o.op = .call { callee := .builtin .append, args := #[s, x], argTypes := #[t, t] })
    (i : TypeInfo) (ht : P.underlying t = some (.slice 70)) (hi : P.info? 70 = some i) (hz : i.zero = some (.agg #[.int .u32 0, .int .u32 0, .int .i64 0, .int .i64 0])) (hsize : i.size = 4) (hby : i.bytes = 24)
    (w0 : World) (v : Value) (n : Nat) (xs : List LinkD) (hn : xs.length = n) (hs : a.eval s = v) (hown : OwnL w0 w v xs) (ad : Addr) (hx : a.eval x = .slice (some ad) 1 1) (l : LinkD) (hl : ∀ j u, (linkVals l)[j]? = some u → w.cell? (ad.add j) = some u) (hsz : n ≤ 1000000000)
    (h : ∀ p c w', OwnL w0 w' (.slice p (n + 1) c) (xs ++ [l]) → Grown w v p (n + 1) c w' → K (a.put o.dst (.slice p (n + 1) c)) w') : Oper.wp P o a w K Q := by
  subst hn
  obtain ⟨v', w', hr, h2, h3, h4⟩ := run_append_sep (P := P) w t o.type 70 i (.agg #[.int .u32 0, .int .u32 0, .int .i64 0, .int .i64 0]) 4 24 ht hi hz hsize hby rfl (by decide) v xs.length (linkCells xs) hown.1 ad 1 1 (linkVals l) rfl hl (linkVals_one l) (by unfold maxLen; omega) (by omega)
  obtain ⟨p, c, rfl⟩ := ownsRow_slice h2
  unfold Oper.wp execOp
  simp only [ho, resolve, invoke, builtin, Sem.run_bind, Sem.run_pure, Result.andThen_ok, List.map_toArray, List.map_cons, List.map_nil, hs, hx, hr]
  refine h p c w' ⟨by rw [linkCells_snoc]; simpa using h2, fun k e => ?_, Nat.le_trans hown.2.2 h3.size⟩ ⟨(Keeps.refl _ _).grown h3 (fun k e => .inl e), h4⟩
  rcases h4 k e with e | e
  · exact hown.2.1 k e
  · exact Nat.le_trans hown.2.2 e
def linkAt (l : List UInt8) (k : Nat) : LinkD := ⟨beVal (sub l k 4), beVal (sub l (k + 4) 4), ((l.getD (k + 8) 0).toNat : Int), (beVal (sub l (k + 10) 2) : Nat)⟩
def readL (l : List UInt8) (j : Nat) : List LinkD := (List.range j).map fun i => linkAt l (12 * i)
theorem readL_len (l : List UInt8) (j : Nat) : (readL l j).length = j := by unfold readL; simp
theorem readL_succ (l : List UInt8) (j : Nat) : readL l (j + 1) = readL l j ++ [linkAt l (12 * j)] := by unfold readL; simp [List.range_succ]
set_option maxRecDepth 100000 in
set_option maxHeartbeats 4000000 in
theorem lsReadLinks_any (p : Option Addr) (c : Nat) (l : List UInt8) (hl : l.length ≤ 1000000) (w : World) (h : Hid (BytesAt w (.slice p l.length c) l)) :
    Calls Try.prog 129 #[.slice p l.length c] w fun e w' => ∃ q d, e = .returned (.slice q (l.length / 12) d) ∧ OwnL w w' (.slice q (l.length / 12) d) (readL l (l.length / 12)) ∧ Keeps (fun _ => False) w w' := by
  obtain ⟨i0, hi0, hz0, hz1, hz2⟩ := info_parts linkInfoAll
  obtain ⟨p', c', e', -, hc, hb⟩ := h.out
  injection e' with e1 e2 e3; subst e1; subst e3
  have hb' := Lib.hid hb; clear hb h
  go_enter Try.func129, Try.ntmps129
  go_wp2
  go_loopw [0, 3] (fun bw nw wr => ∃ (j : Nat) (pp : Option Addr), 12 * j ≤ l.length ∧ bw = .slice pp (l.length - 12 * j) (c - 12 * j) ∧ Hid (12 * j < l.length → ∃ g o, pp = some ⟨g, o + 12 * j, none⟩ ∧ w.rangeAt g o (l.map bv)) ∧ Hid (OwnL w wr nw (readL l j) ∧ Keeps (fun _ => False) w wr)) (fun bw _ _ => match bw with | .slice _ n _ => n | _ => 0)
  case atStart => exact ⟨0, p, by omega, rfl, Lib.hid (fun h => by obtain ⟨g, o, rfl, hr⟩ := hb'.out (by omega); exact ⟨g, o, rfl, hr⟩), Lib.hid ⟨OwnL.nil _ _ (Nat.le_refl _), Keeps.refl _ _⟩⟩
  case round =>
    obtain ⟨j, pp, hj, rfl, hpp, hO⟩ := hrel
    obtain ⟨q, d, hq⟩ := hO.out.1.slice
    rw [readL_len] at hq
    subst hq
    by_cases h12 : 12 * j + 12 ≤ l.length
    · obtain ⟨g, o, rfl, hr⟩ := hpp.out (by omega)
      have hrw : Hid (wr.rangeAt g o (l.map bv)) := Lib.hid (hO.out.2.rangeAt hr id)
      have hrd := Lib.hid (((Keeps.refl (fun _ => False) wr).drew).rangeAt hrw.out id)
      obtain ⟨na, hna⟩ : ∃ n, beVal (sub l (12 * j) 4) = n := ⟨_, rfl⟩
      obtain ⟨nb, hnb⟩ : ∃ n, beVal (sub l (12 * j + 4) 4) = n := ⟨_, rfl⟩
      obtain ⟨nd, hnd⟩ : ∃ n, beVal (sub l (12 * j + 10) 2) = n := ⟨_, rfl⟩
      have ld := sub_lt (x := l) (i := 12 * j + 10) (n := 2) (by omega)
      rw [hnd] at ld
      simp only [show (256 : Nat) ^ 2 = 65536 from rfl] at ld
      obtain ⟨x8, hx8⟩ : ∃ x, l[12 * j + 8]'(by omega) = x := ⟨_, rfl⟩
      have l8 := x8.toNat_lt
      have sa : (sub l (12 * j) 4).length ≤ 4 := by rw [sub_len (by omega)]; omega
      have sb : (sub l (12 * j + 4) 4).length ≤ 4 := by rw [sub_len (by omega)]; omega
      have sd : (sub l (12 * j + 10) 2).length ≤ 4 := by rw [sub_len (by omega)]; omega
      have ka := Lib.hid (bytes_sub hrd.out hc (12 * j) 4 (by omega))
      have kb := Lib.hid (bytes_sub hrd.out hc (12 * j + 4) 4 (by omega))
      have kd := Lib.hid (bytes_sub hrd.out hc (12 * j + 10) 2 (by omega))
      rw [← Nat.add_assoc, ← Nat.sub_sub] at kb kd
      have hrs := readL_succ l j
      have hla : linkAt l (12 * j) = ⟨na, nb, (x8.toNat : Int), (nd : Int)⟩ := by
        unfold linkAt
        rw [hna, hnb, hnd, List.getD_eq_getElem?_getD, List.getElem?_eq_getElem (by omega), hx8]; rfl
      rw [hla] at hrs
      have hrs' := Lib.hid hrs; have hr0 := Lib.hid hr
      have hc8 : Hid (∀ W : World, W.rangeAt g o (l.map bv) → W.cell? ⟨g, o + 12 * j + 8, none⟩ = some (.int .u8 x8.toNat)) := Lib.hid (fun W s => by have := drop_cell s (12 * j + 8) (by omega); rw [hx8, show o + (12 * j + 8) = o + 12 * j + 8 by omega] at this; exact this)
      have hgne : Hid (∀ k, w.heap.size ≤ k → k ≠ g) := Lib.hid (fun k hk => by have := World.block_lt_of_cell? _ _ (hr 0 (bv (l[0]'(by omega))) (by rw [List.getElem?_map, List.getElem?_eq_getElem (by omega)]; rfl)); simp only at this; omega)
      have hna' := Lib.hid hna; have hnb' := Lib.hid hnb; have hnd' := Lib.hid hnd
      have i4 : (4 : Int) ≤ (c - 12 * j : Nat) := by omega
      have i8 : (8 : Int) ≤ (c - 12 * j : Nat) := by omega
      have i12 : (12 : Int) ≤ (c - 12 * j : Nat) := by omega
      have i8' : (8 : Int) < (l.length - 12 * j : Nat) := by omega
      have j4 : ¬ c - 12 * j = 4 := by omega
      have j10 : ¬ c - 12 * j = 10 := by omega
      have v8 : IntKind.i64.wrap (x8.toNat : Int) = (x8.toNat : Int) := IntWalk.i64_in _ (by omega)
      have vd : IntKind.i64.wrap (nd : Int) = (nd : Int) := IntWalk.i64_in _ (by omega)
      have hOd := Lib.hid (hO.out.1.keep ((Keeps.refl (fun _ => False) wr).drew) (fun _ _ f => f))
      have hKd := Lib.hid (hO.out.2.drew)
      have hrl := Lib.hid (readL_len l j)
      clear hr hrs hla hna hnb hnd hO hpp hx8
      go_upto_region 4 with fail
      refine wp_region_noPanic ?_
      refine wp_region_held_drew (S := (fun W => W.rangeAt g o (l.map bv))) (by kernel_rfl) (hrd.out) (fun hHeld => ?_)
      refine tk 0 rfl ?_
      refine tk 1 rfl ?_
      refine tk 2 rfl ?_
      refine tk 4 rfl ?_
      refine tk 5 rfl ?_
      refine tk 7 rfl ?_
      refine tk 8 rfl ?_
      refine tkL 9 rfl (yieldsIf_load_cell (by rfl) 5 (.tmp 17) rfl g (o + 12 * j + 8) rfl _ (fun _ s => hc8.out _ s) (fun w s => load_u8 w _ _ _ s)) ?_
      refine tk 10 rfl ?_
      refine tk 11 rfl ?_
      refine tk 12 rfl ?_
      refine stepL 3 rfl (by kernel_rfl) (fun K hK => ?_)
      go_simp
      (refine (wiRead_r _ _ na sa _ ka hna').mono ?_; rintro e w' ⟨rfl, rfl⟩)
      go_wp2_with fail
      refine hK.out _ _ (hHeld) (fun hHeld => ?_)
      clear hK K
      try simp only [Act.put, sA, sZ, sS]
      refine stepL 6 rfl (by kernel_rfl) (fun K hK => ?_)
      go_simp
      (refine (wiRead_r _ _ nb sb _ kb hnb').mono ?_; rintro e w' ⟨rfl, rfl⟩)
      go_wp2_with fail
      refine hK.out _ _ (hHeld) (fun hHeld => ?_)
      clear hK K
      try simp only [Act.put, sA, sZ, sS]
      refine stepL 13 rfl (by kernel_rfl) (fun K hK => ?_)
      go_simp
      (refine (wiRead_r _ _ nd sd _ kd hnd').mono ?_; rintro e w' ⟨rfl, rfl⟩)
      go_wp2_with fail
      refine hK.out _ _ (hHeld) (fun hHeld => ?_)
      clear hK K
      try simp only [Act.put, sA, sZ, sS]
      refine tk 14 rfl ?_
      refine tk 15 rfl ?_
      clear i4 i8 i12 i8' j4 j10 v8 vd ka kb kd
      have hOl := Lib.hid (hOd.out.keep ((Keeps.refl (fun _ => False) wr.drew).alloc (.cells #[.int .u32 na, .int .u32 nb, .int .i64 (x8.toNat : Nat), .int .i64 nd] 70)) (fun _ _ f => f))
      have hKl := Lib.hid (hKd.out.alloc (.cells #[.int .u32 na, .int .u32 nb, .int .i64 (x8.toNat : Nat), .int .i64 nd] 70))
      refine stepL 16 rfl (by kernel_rfl) (fun K hK => ?_)
      go_simp
      refine hK.out _ _ (((Keeps.refl (fun _ => False) _).alloc _).rangeAt hHeld id) (fun hHeld => ?_)
      clear hK K
      try simp only [Act.put, sA, sZ, sS]
      refine stepL 17 rfl (by kernel_rfl) (fun K hK => ?_)
      rw [if_pos (by rfl)]
      (refine wp_append_l (.tmp 9) (.tmp 25) 26 rfl i0 Try.underlying26 hi0 hz0 hz1 hz2 w _ j (readL l j) hrl.out rfl hOl.out _ rfl ⟨na, nb, (x8.toNat : Int), (nd : Int)⟩ (cells_new rfl _ _) (by omega) ?_; intro q2 d2 w1 ho hg)
      refine hK.out _ _ ((hg.range (fun k e => by have := hOl.out.2.1 k e; exact hgne.out k (hOl.out.2.1 k e)) hHeld)) (fun hHeld => ?_)
      clear hK K
      try simp only [Act.put, sA, sZ, sS]
      refine tk 18 rfl ?_
      refine wpAnyH_done (by kernel_rfl) (NoPanic.normal ?_) _
      have hR : Hid (OwnL w w1 (.slice q2 (j + 1) d2) (readL l j ++ [⟨na, nb, (x8.toNat : Int), (nd : Int)⟩]) ∧ Keeps (fun _ => False) w w1) := Lib.hid ⟨ho, hKl.out.trans' hg.k (fun i e => .inr (hOl.out.2.1 i e))⟩
      clear hHeld ho hg hOl hKl hOd hKd
      go_wp2_with fail
      have hR := hR.out
      refine ⟨⟨j + 1, if c - 12 * j = 12 then some ⟨g, o + 12 * j, none⟩ else some ⟨g, o + 12 * j + 12, none⟩, by omega, ?_, Lib.hid (fun h => ⟨g, o, ?_, hr0.out⟩), Lib.hid ⟨by rw [hrs'.out]; exact hR.1, hR.2⟩⟩, ?_⟩
      · rw [show l.length - 12 * (j + 1) = l.length - 12 * j - 12 by omega, show c - 12 * (j + 1) = c - 12 * j - 12 by omega]
      · rw [if_neg (by omega)]; rfl
      · show l.length - 12 * j - 12 < l.length - 12 * j; omega
    · have hj2 : l.length / 12 = j := by omega
      have hO' := Lib.hid hO.out
      clear hO hpp
      go_wp2_with fail
      go_ret
      rw [hj2]
      exact ⟨q, d, rfl, hO'.out.1, hO'.out.2⟩
end Go.Proofs.Ytdaongflpllfhaa
