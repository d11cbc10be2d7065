/- LI -/
import Derived.Test.YtmggbljkehclpaaG07
import Derived.Test.YtmggbljkehclpaaG08
set_option linter.unusedVariables false
set_option linter.unusedSimpArgs false
namespace Go.Proofs.Ytmggbljkehclpaa
open Go.RowKit
theorem OwnB.writes {w0 w : World} {q : Option Addr} {n c : Nat} {xs : List UInt8} (h : OwnB w0 w (.slice q n c) xs) (h0 : 0 < xs.length) :
 ∃ g, q = some ⟨g, 0, none⟩ ∧ w0.heap.size ≤ g ∧ (∀ k, (hk : k < xs.length) → w.cell? ⟨g, k, none⟩ = some (.int .u8 (xs[k]).toNat) ∧ w.frozen? ⟨g, k, none⟩ = false) ∧
  ∀ (k : Nat) (b : UInt8), OwnB w0 (w.setCell ⟨g, k, none⟩ (.int .u8 b.toNat)) (.slice q n c) (xs.set k b) := by
 obtain ⟨⟨h1, h2⟩, h3, h4⟩ := h
 rcases h2 with ⟨e, _⟩ | ⟨g, cap, cur, e, _, hg, hn, hm, hs, ht⟩
 ·injection e with e1 e2 e3; omega
 ·injection e with e1 e2 e3
  subst e1; subst e3
  have hl : xs.length * 1 = (xs.map bv).length := by simp
  refine ⟨g, rfl, h3 g rfl, fun k hk => ⟨?_, ?_⟩, fun k b => ⟨⟨by simp, .inr ⟨g, c, cur.setIfInBounds k (.int .u8 b.toNat), by simpa using e2, Nat.zero_le _, i0v hg k _, by simpa using hn, hm, by simpa using hs, ?_⟩⟩, h3, by simp only [World.setCell, Array.size_modify]; exact h4⟩⟩
  ·have hk2 : k < cur.size := by rw [hs]; omega
   have : cur.toList[k]? = some (.int .u8 (xs[k]).toNat) := by
    have e4 : (cur.toList.take (xs.length * 1))[k]? = (xs.map bv)[k]? := by rw [ht]
    rw [List.getElem?_take, if_pos (by omega)] at e4
    rw [e4]; simp [hk, bv]
   simp only [World.cell?, hg]
   simpa using this
  ·simp [World.frozen?, hg]
  ·simp only [List.length_set, Array.toList_setIfInBounds, List.map_set]
   rw [List.take_set, ht]; rfl
theorem OwnB.cap {w0 w : World} {q : Option Addr} {n c : Nat} {xs : List UInt8} (h : OwnB w0 w (.slice q n c) xs) : n ≤ c := by
 rcases h.1.2 with ⟨e, _⟩ | ⟨g, cap, cur, e, _, _, hn, _⟩
 ·injection e with e1 e2 e3; omega
 ·injection e with e1 e2 e3; omega
theorem i0t {w0 w : World} {g n c : Nat} {xs : List UInt8} (h : OwnB w0 w (.slice (some ⟨g, 0, none⟩) n c) xs) (i : Nat) : w.rangeAt g i ((xs.drop i).map bv) := by
 obtain ⟨p, c', e, -, -, hr⟩ := h.bytes
 injection e with e1 e2 e3
 by_cases h0 : 0 < xs.length
 ·obtain ⟨b, o, e4, hra⟩ := hr h0
  rw [e4] at e1; injection e1 with e1; injection e1 with e1 e5
  subst e1; subst e5
  have := c0e hra i (xs.length - i)
  rw [List.take_of_length_le (by simp), Nat.zero_add] at this
  exact this
 ·have : xs = [] := List.length_eq_zero_iff.1 (by omega)
  subst this
  intro j u hu; simp at hu
theorem b04 : (Try.prog.info? 76).map (·.size) = some 9 := by kernel_rfl
theorem e0m : (Try.prog.info? 67).map (·.size) = some 3 := by kernel_rfl
theorem l0f (g o c : Nat) (l : List UInt8) (n k : Nat) (hn : Hid (l.length = n)) (hk : k + 2 ≤ n) (hl : n ≤ 1000000) (hc : n ≤ c) (X Y : Nat) (w : World) (hr : Hid (w.rangeAt g o (l.map bv))) (hX : Hid (flX (zed l k) n k = X)) (hY : Hid (flY (zed l k) n k = Y)) :
 Calls Try.prog 73 #[.slice (some ⟨g, o, none⟩) n c, .int .i64 k] w fun e w' => e = .returned (.tuple #[.int .u8 X, .int .u8 Y]) ∧ a02 (fun _ => False) w w' := by
 have e := hn.out
 subst e
 rw [← hX.out, ← hY.out]
 exact j0s g o c l k hk hl hc w hr
theorem hv20 {w0 W : World} {q : Option Addr} {n d : Nat} {X : List UInt8} (_ : X.length = n) (h : Hid (OwnB w0 W (.slice q n d) X)) : Hid (OwnB w0 W (.slice q n d) X) := h
theorem d05 {w0 W : World} {q : Option Addr} {d n N : Nat} {X l Y : List UInt8} (hX : X.length = n) (hN : N = n + l.length) (hY : X ++ l = Y) (h : Hid (OwnB w0 W (.slice q (X.length + l.length) d) (X ++ l))) : Hid (OwnB w0 W (.slice q N d) Y) := by
 have := h.out
 rw [hY, hX, ← hN] at this
 exact Hi this
def h03 (l : LsaD) : List UInt8 := e09 ⟨l.age, l.type, l.id, l.adv, l.seq, 0, 20 + ((d04 l).length : Int)⟩ ++ d04 l
def putB (l : LsaD) : List UInt8 :=
 ((h03 l).set 16 (UInt8.ofNat (flX (zed ((h03 l).drop 2) 14) ((h03 l).length - 2) 14))).set 17 (UInt8.ofNat (flY (zed ((h03 l).drop 2) 14) ((h03 l).length - 2) 14))
theorem q0s (l : LsaD) : (h03 l).length = 20 + (d04 l).length := by unfold h03; rw [List.length_append, c0x]
theorem f0f (l : LsaD) : (putB l).length = 20 + (d04 l).length := by unfold putB; simp [q0s]
theorem j0p {l : LsaD} (h : canB l = true) : k0q l = true := by
 unfold canB at h
 simp at h
 exact h.2.2
theorem e0o {l : LsaD} (h : canB l = true) : l.links.length ≤ 40 ∧ l.routers.length ≤ 40 := by
 have h2 := j0p h
 unfold k0q a0e at h2
 split at h2
 ·simp only [Bool.and_eq_true, decide_eq_true_eq] at h2; omega
 ·split at h2
  ·simp only [Bool.and_eq_true, decide_eq_true_eq] at h2; omega
  ·split at h2
   ·simp only [Bool.and_eq_true, decide_eq_true_eq] at h2; omega
   ·cases h2
theorem f0r {l : LsaD} (h1 : l.links.length ≤ 40) (h2 : l.routers.length ≤ 40) : 4 ≤ (d04 l).length ∧ (d04 l).length ≤ 484 := by
 unfold d04
 split
 ·rw [List.length_append, a0b, f06]; omega
 ·split
  ·rw [List.length_append, a0b, d0u]; omega
  ·rw [List.length_append, a0b, a0b]; omega
set_option maxRecDepth 100000 in
set_option maxHeartbeats 4000000 in
theorem l02 (age type seq cost : Int) (lid adv mask : Nat) (links : List b09) (routers : List Nat) (p5 p7 : Option Addr) (c5 c7 : Nat) (w : World)
 (hl : Hid (b02 w (.slice p5 links.length c5) links)) (hll : links.length ≤ 9223372036854775807) (hrl : routers.length ≤ 9223372036854775807) (hz : Hid (canB ⟨age, type, lid, adv, seq, links, mask, routers, cost⟩ = false)) :
 Calls Try.prog 66 #[.agg (La age type lid adv seq (.slice p5 links.length c5) mask (.slice p7 routers.length c7) cost)] w (fun e w' => e = .returned (.tuple #[.slice none 0 0, .int .i64 1]) ∧ a02 (fun _ => False) w w') := by
 have hB : Hid ((w.alloc (.cells (La age type lid adv seq (.slice p5 links.length c5) mask (.slice p7 routers.length c7) cost) 76)).rangeAt w.heap.size 0 (La' age type lid adv seq (.slice p5 links.length c5) mask (.slice p7 routers.length c7) cost)) := Hi (a0o w _ 76)
 go_enter Try.func66, Try.ntmps66
 go_wp2_with ((with_reducible refine a09 6 ?_); refine wpList_load_mid rfl 76 (.tmp 1) rfl w.heap.size 0 rfl _ _ hB.out Try.underlying76 rfl b04 ?_)
 refine (j0d age type seq cost lid adv mask links routers p5 p7 c5 c7 false _ (Hi (hl.out.keep ((a02.refl _ _).alloc _))) hll hrl hz).mono ?_
 rintro e w2 ⟨rfl, k2⟩
 have k2' := Hi k2; clear k2
 go_wp2_with fail
 go_ret2
 exact ⟨rfl, ((a02.refl _ _).alloc _).trans k2'.out⟩
set_option maxRecDepth 100000 in
set_option maxHeartbeats 4000000 in
theorem g03 (age type seq cost : Int) (lid adv mask : Nat) (links : List b09) (routers : List Nat) (p5 p7 : Option Addr) (c5 c7 : Nat) (w : World)
 (hl : Hid (b02 w (.slice p5 links.length c5) links)) (hr : Hid (a0u w (.slice p7 routers.length c7) routers)) (hlok : Hid (∀ l ∈ links, l.ok)) (hrok : Hid (h06 routers)) (hid : lid < 4294967296) (hadv : adv < 4294967296) (hm : mask < 4294967296) (hz : Hid (canB ⟨age, type, lid, adv, seq, links, mask, routers, cost⟩ = true)) :
 Calls Try.prog 66 #[.agg (La age type lid adv seq (.slice p5 links.length c5) mask (.slice p7 routers.length c7) cost)] w (fun e w' => ∃ p c, e = .returned (.tuple #[.slice p (putB ⟨age, type, lid, adv, seq, links, mask, routers, cost⟩).length c, .int .i64 0]) ∧ OwnB w w' (.slice p (putB ⟨age, type, lid, adv, seq, links, mask, routers, cost⟩).length c) (putB ⟨age, type, lid, adv, seq, links, mask, routers, cost⟩) ∧ a02 (fun _ => False) w w') := by
 obtain ⟨i0, hi0, hz0, hz1, hz2⟩ := info_parts b0g
 have hlens := e0o hz.out
 have hlen1 : links.length ≤ 40 := hlens.1
 have hlen2 : routers.length ≤ 40 := hlens.2
 have htl := f0r (l := ⟨age, type, lid, adv, seq, links, mask, routers, cost⟩) hlens.1 hlens.2
 obtain ⟨Tl, hTl⟩ : ∃ T, d04 ⟨age, type, lid, adv, seq, links, mask, routers, cost⟩ = T := ⟨_, rfl⟩
 obtain ⟨Bs, hBs⟩ : ∃ B, e09 ⟨age, type, lid, adv, seq, 0, 20 + (Tl.length : Int)⟩ ++ Tl = B := ⟨_, rfl⟩
 have hbase : h03 ⟨age, type, lid, adv, seq, links, mask, routers, cost⟩ = Bs := by unfold h03; rw [hTl, ← hBs]
 have hBl : Bs.length = 20 + Tl.length := by rw [← hBs, List.length_append, c0x]
 rw [hTl] at htl
 obtain ⟨N, hN⟩ : ∃ N, N = 20 + Tl.length := ⟨_, rfl⟩
 rw [← hN] at hBl
 obtain ⟨X, hX⟩ : ∃ X, flX (zed (Bs.drop 2) 14) (N - 2) 14 = X := ⟨_, rfl⟩
 obtain ⟨Y, hY⟩ : ∃ Y, flY (zed (Bs.drop 2) 14) (N - 2) 14 = Y := ⟨_, rfl⟩
 have lX : X < 255 := by rw [← hX]; exact m09 ..
 have lY : Y < 255 := by rw [← hY]; exact o05 ..
 have hput : putB ⟨age, type, lid, adv, seq, links, mask, routers, cost⟩ = (Bs.set 16 (UInt8.ofNat X)).set 17 (UInt8.ofNat Y) := by
  unfold putB; rw [hbase, hBl, hX, hY]
 have hputl : (putB ⟨age, type, lid, adv, seq, links, mask, routers, cost⟩).length = N := by rw [hput]; simp [hBl]
 rw [hputl, hput]
 have hN1 : 24 ≤ N := by omega
 have hN2 : N ≤ 504 := by omega
 have hTN : (Tl.length : Int) = (N : Int) - 20 := by omega
 have hTn2 : Tl.length ≤ 484 := htl.2
 have hTl' := Hi hTl; have hBs' := Hi hBs; have hBl' := Hi hBl; have hX' := Hi hX; have hY' := Hi hY; have hN' := Hi hN; have hTN' := Hi hTN
 clear hTl hBs hBl hX hY hput hputl hbase htl hlens hN hTN
 have hB : Hid ((w.alloc (.cells (La age type lid adv seq (.slice p5 links.length c5) mask (.slice p7 routers.length c7) cost) 76)).rangeAt w.heap.size 0 (La' age type lid adv seq (.slice p5 links.length c5) mask (.slice p7 routers.length c7) cost)) := Hi (a0o w _ 76)
 have kB : Hid (a02 (fun _ => False) w (w.alloc (.cells (La age type lid adv seq (.slice p5 links.length c5) mask (.slice p7 routers.length c7) cost) 76))) := Hi ((a02.refl _ _).alloc _)
 have hsz : Hid (w.heap.size < (w.alloc (.cells (La age type lid adv seq (.slice p5 links.length c5) mask (.slice p7 routers.length c7) cost) 76)).heap.size) := Hi (by simp)
 go_enter Try.func66, Try.ntmps66
 go_wp2_with ((with_reducible refine a09 6 ?_); refine wpList_load_mid rfl 76 (.tmp 1) rfl w.heap.size 0 rfl _ _ hB.out Try.underlying76 rfl b04 ?_)
 generalize w.alloc (.cells (La age type lid adv seq (.slice p5 links.length c5) mask (.slice p7 routers.length c7) cost) 76) = wb at hB kB hsz ⊢
 refine (j0d age type seq cost lid adv mask links routers p5 p7 c5 c7 true _ (Hi (hl.out.keep kB.out)) (by omega) (by omega) hz).mono ?_
 rintro e w2 ⟨rfl, k2⟩
 have kB2 := Hi (kB.out.trans k2)
 have hB2 := Hi (k2.rangeAt hB.out id)
 have hsz2 : Hid (w.heap.size < w2.heap.size) := Hi (Nat.lt_of_lt_of_le hsz.out k2.size)
 clear k2 kB hB hsz
 go_wp2_with ((with_reducible refine a09 9 ?_); refine wpList_load_mid rfl 76 (.tmp 1) rfl w.heap.size 0 rfl _ _ hB2.out Try.underlying76 rfl b04 ?_)
 refine (o0u age type seq cost lid adv mask links routers p5 p7 c5 c7 Tl _ (Hi (hl.out.keep kB2.out)) (Hi (hr.out.keep kB2.out)) (by omega) (by omega) hlok hrok hm hTl').mono ?_
 rintro e w3 ⟨pt, ct, rfl, hOt, k3⟩
 have kB3 := Hi (kB2.out.trans k3)
 have hB3 := Hi (k3.rangeAt hB2.out id)
 have hsz3 : Hid (w.heap.size < w3.heap.size) := Hi (Nat.lt_of_lt_of_le hsz2.out k3.size)
 have hOt' := Hi hOt.bytes
 have b0 := a01 hB3.out 0 (.int .i64 age) rfl
 have b4 := a01 hB3.out 4 (.int .i64 seq) rfl
 have hkey : Hid (w3.rangeAt w.heap.size 1 [.int .i64 type, .int .u32 lid, .int .u32 adv]) := Hi (fun j u hu => hB3.out (1 + j) u (by
  match j, hu with
  | 0, hu => exact hu
  | 1, hu => exact hu
  | 2, hu => exact hu
  | j + 3, hu => simp at hu) |> fun h => by rw [Nat.zero_add] at h; exact h)
 clear hOt k3 kB2 hB2 hsz2
 go_wp2_with ((with_reducible refine a09 14 ?_); refine wpList_load_mid rfl 67 (.tmp 13) rfl w.heap.size 1 rfl _ _ hkey.out Try.underlying67 rfl e0m ?_)
 refine (g04 age type seq (20 + (Tl.length : Int)) lid adv 0 hid hadv (by omega) _).mono ?_
 rintro e w4 ⟨ph, ch, rfl, hOh, k4⟩
 have hhl := c0x ⟨age, type, lid, adv, seq, 0, 20 + (Tl.length : Int)⟩
 obtain ⟨Hd, hHd⟩ : ∃ H, e09 ⟨age, type, lid, adv, seq, 0, 20 + (Tl.length : Int)⟩ = H := ⟨_, rfl⟩
 rw [hHd] at hhl hOh
 rw [hHd, hhl]
 rw [hhl] at hOh
 have hBs2 : Hid (Hd ++ Tl = Bs) := Hi (by rw [← hHd]; exact hBs'.out)
 have hhl' := Hi hhl
 have kB4 := Hi (kB3.out.trans k4)
 have hOt4 := Hi (hOt'.out.keep k4)
 have hOh' := Hi (hOh.older (w0 := w) (by have := kB3.out.size; exact this))
 clear hhl hOh k4 hHd kB3 hB3 hsz3 hkey b0 b4 hOt' hBs'
 go_wp2_with ((with_reducible refine a09 24 ?_); refine a0f rfl (.tmp 22) (.tmp 23) 31 rfl i0 Try.underlying31 hi0 hz0 hz1 hz2 w _ Hd rfl (hv20 hhl'.out hOh').out _ rfl Tl hOt4.out (by rw [hhl'.out]; omega) ?_; intro q d w5 hO5 hg5; have hO6 := d05 hhl'.out hN'.out hBs2.out hO5; have k6 := Hi ((hv20 hhl'.out hOh').out.keeps kB4.out hg5.out); clear hO5 hg5; rw [show Hd.length + Tl.length = N by rw [hhl'.out]; exact hN'.out.symm]; obtain ⟨g, hq, hg0, -, -⟩ := hO6.out.writes (by rw [hBl'.out]; omega); subst hq; have hg0' := Hi hg0; clear hg0; have hcap := hO6.out.cap)
 refine (l0f g 2 (d - 2) (Bs.drop 2) (N - 2) 14 (Hi (by rw [List.length_drop, hBl'.out])) (by omega) (by omega) (by omega) X Y _ (Hi (i0t hO6.out 2)) hX' hY').mono ?_
 rintro e w7 ⟨rfl, k7⟩
 have hO7 := Hi (hO6.out.keep k7 (fun _ _ f => f))
 have kB7 := Hi (k6.out.trans k7)
 clear k7 hO6 k6
 obtain ⟨g', e', -, hcell, hset⟩ := hO7.out.writes (by rw [hBl'.out]; omega)
 injection e' with e'; injection e' with e'; subst e'
 have c16 := (hcell 16 (by rw [hBl'.out]; omega)).1
 have f16 := (hcell 16 (by rw [hBl'.out]; omega)).2
 have c17 := (hcell 17 (by rw [hBl'.out]; omega)).1
 have f17 := (hcell 17 (by rw [hBl'.out]; omega)).2
 have eX : (UInt8.ofNat X).toNat = X := by simp; omega
 have eY : (UInt8.ofNat Y).toNat = Y := by simp; omega
 have hs1 := hset 16 (UInt8.ofNat X)
 rw [eX] at hs1
 obtain ⟨g2, e2, -, -, hset2⟩ := hs1.writes (by simp; rw [hBl'.out]; omega)
 injection e2 with e2; injection e2 with e2; subst e2
 have hs2 := hset2 17 (UInt8.ofNat Y)
 rw [eY] at hs2
 have hk8 : a02 (fun _ => False) w ((w7.setCell ⟨g, 16, none⟩ (.int .u8 X)).setCell ⟨g, 17, none⟩ (.int .u8 Y)) := (kB7.out.setCell (p := ⟨g, 16, none⟩) (.inr hg0'.out) _).setCell (p := ⟨g, 17, none⟩) (.inr hg0'.out) _
 have hs2' := Hi hs2; have hk8' := Hi hk8
 clear hs1 hset hset2 hcell hs2 hk8 eX eY
 go_wp2_with fail
 go_ret2
 exact ⟨_, d, rfl, hs2'.out, hk8'.out⟩
end Go.Proofs.Ytmggbljkehclpaa
