/- QG QN -/
import Derived.Test.YtmggbljkehclpaaP17
import Derived.Test.YtmggbljkehclpaaP20
import Derived.Test.YtmggbljkehclpaaP27
import Derived.Test.YtmggbljkehclpaaP35
import Derived.Test.YtmggbljkehclpaaP37
import Derived.Test.YtmggbljkehclpaaP38
import Derived.Test.YtmggbljkehclpaaP39
import Derived.Test.YtmggbljkehclpaaP40
set_option linter.unusedVariables false
set_option linter.unusedSimpArgs false
namespace Go.Proofs.Ytmggbljkehclpaa
open Go.RowKit
structure a0m.small (p : a0m) : Prop where
 ok : p.ok
 al : p.auth.length ≤ 8
 nl : p.nbs.length ≤ 20
 hl : p.heads.length ≤ 20
 kl : p.keys.length ≤ 20
 ll : p.lsas.length ≤ 20
 ls : ∀ l ∈ p.lsas, l.links.length ≤ 1000000 ∧ l.routers.length ≤ 1000000
theorem e0u : c08.small :=
 ⟨⟨by decide, by decide, by decide, by decide, by decide, by decide, c0u, h06, h0w, h0v, by decide, by decide, by decide, by decide⟩, by decide, by decide, by decide, by decide, by decide, fun l h => by simp [c08] at h⟩
theorem m0z {p : a0m} (h : okP p = true) (hok : p.ok) : p.small := by
 unfold okP at h
 rw [Bool.and_eq_true] at h
 obtain ⟨h1, h2⟩ := h
 obtain ⟨a1, a2, a3, a4, a5, a6⟩ := c0l h1
 obtain ⟨b1, b2, b3, b4, b5⟩ := e0n a6
 have hn : p.nbs.length ≤ 20 := by
  by_cases t : p.type = 1
  ·have := a3 t
   unfold g0w at this
   simp only [Bool.and_eq_true, decide_eq_true_eq] at this
   exact this.2.2.2
  ·unfold e0k at a2
   simp only [Bool.or_eq_false_iff, Bool.and_eq_false_iff, Bool.not_eq_false', decide_eq_true_eq] at a2
   rcases a2.1 with h | h
   ·exact absurd h t
   ·unfold g0m at h
    simp only [Bool.and_eq_true, decide_eq_true_eq] at h
    omega
 have ha : p.auth.length ≤ 8 := by
  unfold i0q at a4
  simp only [Bool.and_eq_true, decide_eq_true_eq] at a4
  exact a4.1
 refine ⟨hok, ha, hn, b1, b3, b5, fun l hl => ?_⟩
 have := e03 (List.all_eq_true.1 h2 l hl)
 omega
theorem q0d (x a : List UInt8) (hx : x.length ≤ 900000) : (getP x a).1.small := by
 have hh := i0i x a hx _ rfl
 unfold getP
 split
 ·exact e0u
 ·split
  ·exact e0u
  ·split
   ·exact e0u
   ·split
    ·exact e0u
    ·split
     ·exact e0u
     ·split
      ·rename_i h; exact m0z h.1 hh
      ·exact e0u
theorem e06 (a b c : List UInt8) (i n : Nat) (h : a.length = i) (hb : b.length = n) : sub (a ++ (b ++ c)) i n = b := by
 rw [g0d _ _ _ _ h, List.take_append_of_le_length (by omega), List.take_of_length_le (by omega)]
theorem m06 (t : Int) (h : 0 ≤ t ∧ t < 256) : ((UInt8.ofNat (lo8 t)).toNat : Int) = t := by
 have : lo8 t = t.toNat := by unfold lo8; omega
 rw [this]; simp; omega
theorem n09 (h : c0p) (hok : h.ok) (hw : b0e h = false) (r : List UInt8) : a0f (d0d h ++ r) = h := by
 obtain ⟨age, type, id, adv, seq, sum, len⟩ := h
 obtain ⟨h1, h2, h3⟩ := hok
 unfold b0e a0e at hw
 simp only [Bool.or_eq_false_iff, Bool.not_eq_false', decide_eq_true_eq] at hw h1 h2 h3
 obtain ⟨w1, w2, w3, w4⟩ := hw
 have hb : d0d ⟨age, type, id, adv, seq, sum, len⟩ ++ r = be 2 (lo64 age) ++ ([2, UInt8.ofNat (lo8 type)] ++ (be 4 id ++ (be 4 adv ++ (be 4 (lo64 seq) ++ (be 2 sum ++ (be 2 (lo64 len) ++ r)))))) := by unfold d0d; simp only [List.append_assoc]
 rw [hb]
 have e0 : sub (be 2 (lo64 age) ++ ([2, UInt8.ofNat (lo8 type)] ++ (be 4 id ++ (be 4 adv ++ (be 4 (lo64 seq) ++ (be 2 sum ++ (be 2 (lo64 len) ++ r))))))) 0 2 = be 2 (lo64 age) := by
  unfold sub; rw [List.drop_zero, d0y]
 have e2 : sub (be 2 (lo64 age) ++ ([2, UInt8.ofNat (lo8 type)] ++ (be 4 id ++ (be 4 adv ++ (be 4 (lo64 seq) ++ (be 2 sum ++ (be 2 (lo64 len) ++ r))))))) 4 4 = be 4 id := by
  have := e06 (be 2 (lo64 age) ++ [2, UInt8.ofNat (lo8 type)]) (be 4 id) (be 4 adv ++ (be 4 (lo64 seq) ++ (be 2 sum ++ (be 2 (lo64 len) ++ r)))) 4 4 (by simp [a08]) (a08 _ _)
  simpa only [List.append_assoc] using this
 have e3 : sub (be 2 (lo64 age) ++ ([2, UInt8.ofNat (lo8 type)] ++ (be 4 id ++ (be 4 adv ++ (be 4 (lo64 seq) ++ (be 2 sum ++ (be 2 (lo64 len) ++ r))))))) 8 4 = be 4 adv := by
  have := e06 (be 2 (lo64 age) ++ [2, UInt8.ofNat (lo8 type)] ++ be 4 id) (be 4 adv) (be 4 (lo64 seq) ++ (be 2 sum ++ (be 2 (lo64 len) ++ r))) 8 4 (by simp [a08]) (a08 _ _)
  simpa only [List.append_assoc] using this
 have e4 : sub (be 2 (lo64 age) ++ ([2, UInt8.ofNat (lo8 type)] ++ (be 4 id ++ (be 4 adv ++ (be 4 (lo64 seq) ++ (be 2 sum ++ (be 2 (lo64 len) ++ r))))))) 12 4 = be 4 (lo64 seq) := by
  have := e06 (be 2 (lo64 age) ++ [2, UInt8.ofNat (lo8 type)] ++ be 4 id ++ be 4 adv) (be 4 (lo64 seq)) (be 2 sum ++ (be 2 (lo64 len) ++ r)) 12 4 (by simp [a08]) (a08 _ _)
  simpa only [List.append_assoc] using this
 have e5 : sub (be 2 (lo64 age) ++ ([2, UInt8.ofNat (lo8 type)] ++ (be 4 id ++ (be 4 adv ++ (be 4 (lo64 seq) ++ (be 2 sum ++ (be 2 (lo64 len) ++ r))))))) 16 2 = be 2 sum := by
  have := e06 (be 2 (lo64 age) ++ [2, UInt8.ofNat (lo8 type)] ++ be 4 id ++ be 4 adv ++ be 4 (lo64 seq)) (be 2 sum) (be 2 (lo64 len) ++ r) 16 2 (by simp [a08]) (a08 _ _)
  simpa only [List.append_assoc] using this
 have e6 : sub (be 2 (lo64 age) ++ ([2, UInt8.ofNat (lo8 type)] ++ (be 4 id ++ (be 4 adv ++ (be 4 (lo64 seq) ++ (be 2 sum ++ (be 2 (lo64 len) ++ r))))))) 18 2 = be 2 (lo64 len) := by
  have := e06 (be 2 (lo64 age) ++ [2, UInt8.ofNat (lo8 type)] ++ be 4 id ++ be 4 adv ++ be 4 (lo64 seq) ++ be 2 sum) (be 2 (lo64 len)) r 18 2 (by simp [a08]) (a08 _ _)
  simpa only [List.append_assoc] using this
 have e1 : (be 2 (lo64 age) ++ ([2, UInt8.ofNat (lo8 type)] ++ (be 4 id ++ (be 4 adv ++ (be 4 (lo64 seq) ++ (be 2 sum ++ (be 2 (lo64 len) ++ r))))))).getD 3 0 = UInt8.ofNat (lo8 type) := by
  rw [be2]; rfl
 unfold a0f
 rw [e0, e1, e2, e3, e4, e5, e6, b07, b07, b07, b07, b07, b07, m06 type (by omega)]
 refine r0k ?_ rfl ?_ ?_ ?_ ?_ ?_
 ·show ((lo64 age % 256 ^ 2 : Nat) : Int) = age; unfold lo64; omega
 ·show id % 256 ^ 4 = id; omega
 ·show adv % 256 ^ 4 = adv; omega
 ·show f0o (lo64 seq % 256 ^ 4) = seq; unfold f0o lo64; split <;> omega
 ·show sum % 256 ^ 2 = sum; omega
 ·show ((lo64 len % 256 ^ 2 : Nat) : Int) = len; unfold lo64; omega
theorem j0x (hs : List c0p) (h : ∀ l ∈ hs, l.ok) (hw : ∀ l ∈ hs, b0e l = false) : d0m (c03 hs) hs.length = hs := by
 induction hs with
 | nil => rfl
 | cons n ns ih =>
  have hb : c03 (n :: ns) = d0d n ++ c03 ns := by unfold c03; rw [List.flatMap_cons]
  unfold d0m at ih ⊢
  rw [List.length_cons, List.range_succ_eq_map, List.map_cons, List.map_map, hb, Nat.mul_zero, List.drop_zero, n09 n (h n (by simp)) (hw n (by simp))]
  congr 1
  conv => rhs; rw [← ih (fun m hm => h m (by simp [hm])) (fun m hm => hw m (by simp [hm]))]
  apply List.map_congr_left
  intro i _
  show a0f ((d0d n ++ c03 ns).drop (20 * (i + 1))) = a0f ((c03 ns).drop (20 * i))
  rw [show 20 * (i + 1) = (d0d n).length + 20 * i by rw [d04]; omega, ← List.drop_drop, List.drop_append_of_le_length (Nat.le_refl _), List.drop_length, List.nil_append]
theorem q08 (k : KeyD) (hok : k.ok) (hw : b0n k = false) (r : List UInt8) : l0z (keyB k ++ r) 0 = k := by
 obtain ⟨type, id, adv⟩ := k
 obtain ⟨h1, h2⟩ := hok
 unfold b0n a0e at hw
 simp only [Bool.not_eq_false', decide_eq_true_eq] at hw h1 h2
 have hb : keyB ⟨type, id, adv⟩ ++ r = be 4 (lo32 type) ++ (be 4 id ++ (be 4 adv ++ r)) := by unfold keyB; simp only [List.append_assoc]
 rw [hb]
 have e0 : sub (be 4 (lo32 type) ++ (be 4 id ++ (be 4 adv ++ r))) 0 4 = be 4 (lo32 type) := by unfold sub; rw [List.drop_zero, d0y]
 have e1 : sub (be 4 (lo32 type) ++ (be 4 id ++ (be 4 adv ++ r))) (0 + 4) 4 = be 4 id := e06 _ _ _ _ _ (a08 _ _) (a08 _ _)
 have e2 : sub (be 4 (lo32 type) ++ (be 4 id ++ (be 4 adv ++ r))) (0 + 8) 4 = be 4 adv := by
  have := e06 (be 4 (lo32 type) ++ be 4 id) (be 4 adv) r 8 4 (by simp [a08]) (a08 _ _)
  simpa only [List.append_assoc] using this
 unfold l0z
 rw [e0, e1, e2, b07, b07, b07]
 have x1 : ((lo32 type % 256 ^ 4 : Nat) : Int) = type := by unfold lo32; omega
 have x2 : id % 256 ^ 4 = id := by omega
 have x3 : adv % 256 ^ 4 = adv := by omega
 rw [x1, x2, x3]
theorem p0n (hs : List KeyD) (h : ∀ l ∈ hs, l.ok) (hw : ∀ l ∈ hs, b0n l = false) : e0h (e0b hs) hs.length = hs := by
 induction hs with
 | nil => rfl
 | cons n ns ih =>
  have hb : e0b (n :: ns) = keyB n ++ e0b ns := by unfold e0b; rw [List.flatMap_cons]
  unfold e0h at ih ⊢
  rw [List.length_cons, List.range_succ_eq_map, List.map_cons, List.map_map, hb, Nat.mul_zero, q08 n (h n (by simp)) (hw n (by simp))]
  congr 1
  conv => rhs; rw [← ih (fun m hm => h m (by simp [hm])) (fun m hm => hw m (by simp [hm]))]
  apply List.map_congr_left
  intro i _
  have hs : ∀ j m, sub (keyB n ++ e0b ns) (12 * (i + 1) + j) m = sub (e0b ns) (12 * i + j) m := fun j m => by
   unfold sub
   rw [show 12 * (i + 1) + j = (keyB n).length + (12 * i + j) by rw [p03]; omega, ← List.drop_drop, List.drop_append_of_le_length (Nat.le_refl _), List.drop_length, List.nil_append]
  show l0z (keyB n ++ e0b ns) (12 * (i + 1)) = l0z (e0b ns) (12 * i)
  unfold l0z
  have h0 := hs 0 4
  simp only [Nat.add_zero] at h0
  rw [h0, hs 4, hs 8]
theorem p0o (ls : List LsaD) (h : ∀ l ∈ ls, l.ok) (hc : ∀ l ∈ ls, canB l = true) : d0w ls.length (c0k ls) = (ls, 0) := by
 induction ls with
 | nil => rfl
 | cons n ns ih =>
  have hb : c0k (n :: ns) = putB n ++ c0k ns := by unfold c0k; rw [List.flatMap_cons]
  have hn := h n (by simp); have hcn := hc n (by simp)
  obtain ⟨s, -, hh, -⟩ := head_put n hn hcn
  have hpl := e0f n
  have h20 : 20 ≤ (putB n).length := by omega
  have hhd : a0f (putB n ++ c0k ns) = a0f (putB n) := by
   rw [← h0y (putB n ++ c0k ns), List.take_append_of_le_length h20, h0y]
  have hlen : (a0f (putB n ++ c0k ns)).len = ((putB n).length : Nat) := by rw [hhd, hh]
  have htk : (putB n ++ c0k ns).take (a0f (putB n ++ c0k ns)).len.toNat = putB n := by
   rw [hlen, Int.toNat_natCast, List.take_append_of_le_length (Nat.le_refl _), List.take_length]
  have hdr : (putB n ++ c0k ns).drop (a0f (putB n ++ c0k ns)).len.toNat = c0k ns := by
   rw [hlen, Int.toNat_natCast, List.drop_append_of_le_length (Nat.le_refl _), List.drop_length, List.nil_append]
  rw [List.length_cons, hb, d0w, if_neg (by rw [hlen, List.length_append]; omega), htk, hdr, getL_put n hn hcn, ih (fun m hm => h m (by simp [hm])) (fun m hm => hc m (by simp [hm]))]
  rfl
theorem r0f (P : a0m) (hok : P.ok) (hl : ∀ l ∈ P.lsas, l.ok) (hz : okP P = true) : b0p P.type P.router P.area P.auth (b0x P) = (P, 0) := by
 unfold okP at hz
 rw [Bool.and_eq_true] at hz
 obtain ⟨hcan, hall⟩ := hz
 have hall' : ∀ l ∈ P.lsas, canB l = true := List.all_eq_true.1 hall
 obtain ⟨a1, a2, a3, a4, a5, a6⟩ := c0l hcan
 obtain ⟨b1, b2, b3, b4, b5⟩ := e0n a6
 have hwh : ∀ l ∈ P.heads, b0e l = false := fun l h => by simpa using List.any_eq_false.1 b2 l h
 have hwk : ∀ l ∈ P.keys, b0n l = false := fun l h => by simpa using List.any_eq_false.1 b4 l h
 obtain ⟨o1, o2, o3, o4, o5, o6, o7, o8, o9, o10, -⟩ := hok
 obtain ⟨type, router, area, auth, mask, interval, dead, priority, dr, bdr, nbs, flags, seq, heads, keys, lsas⟩ := P
 simp only at *
 unfold e0k g0m at a2
 simp only at a2
 rcases k0k hcan with t | t | t | t | t
 ·simp only at t; subst t
  simp at a2
  obtain ⟨⟨e1, e2⟩, e3, e4, e5⟩ := a2
  subst e1; subst e2; subst e3; subst e4; subst e5
  have hg := a3 rfl
  unfold g0w a0e at hg
  simp only [Bool.and_eq_true, decide_eq_true_eq] at hg
  obtain ⟨g1, g2, g3, g4⟩ := hg
  have hT : b0x ⟨1, router, area, auth, mask, interval, dead, priority, dr, bdr, nbs, 0, 0, [], [], []⟩ = be 4 mask ++ (be 2 (lo16 interval) ++ ([2, UInt8.ofNat (lo8 priority)] ++ (be 4 (lo32 dead) ++ (be 4 dr ++ (be 4 bdr ++ bes nbs))))) := by
   unfold b0x l0f; simp only [if_true, List.append_assoc]
  have hTl : (b0x ⟨1, router, area, auth, mask, interval, dead, priority, dr, bdr, nbs, 0, 0, [], [], []⟩).length = 20 + 4 * nbs.length := by
   unfold b0x; simp only [if_true]; exact l0e _
  unfold b0p
  rw [if_pos ⟨rfl, by rw [hTl]; omega⟩, hTl, hT]
  have s0 : sub (be 4 mask ++ (be 2 (lo16 interval) ++ ([2, UInt8.ofNat (lo8 priority)] ++ (be 4 (lo32 dead) ++ (be 4 dr ++ (be 4 bdr ++ bes nbs)))))) 0 4 = be 4 mask := by unfold sub; rw [List.drop_zero, d0y]
  have s4 : sub (be 4 mask ++ (be 2 (lo16 interval) ++ ([2, UInt8.ofNat (lo8 priority)] ++ (be 4 (lo32 dead) ++ (be 4 dr ++ (be 4 bdr ++ bes nbs)))))) 4 2 = be 2 (lo16 interval) := e06 _ _ _ _ _ (a08 _ _) (a08 _ _)
  have s8 : sub (be 4 mask ++ (be 2 (lo16 interval) ++ ([2, UInt8.ofNat (lo8 priority)] ++ (be 4 (lo32 dead) ++ (be 4 dr ++ (be 4 bdr ++ bes nbs)))))) 8 4 = be 4 (lo32 dead) := by
   have := e06 (be 4 mask ++ be 2 (lo16 interval) ++ [2, UInt8.ofNat (lo8 priority)]) (be 4 (lo32 dead)) (be 4 dr ++ (be 4 bdr ++ bes nbs)) 8 4 (by simp [a08]) (a08 _ _)
   simpa only [List.append_assoc] using this
  have s12 : sub (be 4 mask ++ (be 2 (lo16 interval) ++ ([2, UInt8.ofNat (lo8 priority)] ++ (be 4 (lo32 dead) ++ (be 4 dr ++ (be 4 bdr ++ bes nbs)))))) 12 4 = be 4 dr := by
   have := e06 (be 4 mask ++ be 2 (lo16 interval) ++ [2, UInt8.ofNat (lo8 priority)] ++ be 4 (lo32 dead)) (be 4 dr) (be 4 bdr ++ bes nbs) 12 4 (by simp [a08]) (a08 _ _)
   simpa only [List.append_assoc] using this
  have s16 : sub (be 4 mask ++ (be 2 (lo16 interval) ++ ([2, UInt8.ofNat (lo8 priority)] ++ (be 4 (lo32 dead) ++ (be 4 dr ++ (be 4 bdr ++ bes nbs)))))) 16 4 = be 4 bdr := by
   have := e06 (be 4 mask ++ be 2 (lo16 interval) ++ [2, UInt8.ofNat (lo8 priority)] ++ be 4 (lo32 dead) ++ be 4 dr) (be 4 bdr) (bes nbs) 16 4 (by simp [a08]) (a08 _ _)
   simpa only [List.append_assoc] using this
  have s20 : (be 4 mask ++ (be 2 (lo16 interval) ++ ([2, UInt8.ofNat (lo8 priority)] ++ (be 4 (lo32 dead) ++ (be 4 dr ++ (be 4 bdr ++ bes nbs)))))).drop 20 = bes nbs := by
   have := List.drop_left' (l₁ := be 4 mask ++ be 2 (lo16 interval) ++ [2, UInt8.ofNat (lo8 priority)] ++ be 4 (lo32 dead) ++ be 4 dr ++ be 4 bdr) (l₂ := bes nbs) (i := 20) (by simp [a08])
   simpa only [List.append_assoc] using this
  have s7 : (be 4 mask ++ (be 2 (lo16 interval) ++ ([2, UInt8.ofNat (lo8 priority)] ++ (be 4 (lo32 dead) ++ (be 4 dr ++ (be 4 bdr ++ bes nbs)))))).getD 7 0 = UInt8.ofNat (lo8 priority) := by rw [be4, be2]; rfl
  rw [s0, s4, s8, s12, s16, s20, s7, b07, b07, b07, b07, b07, m06 priority (by omega), show (20 + 4 * nbs.length - 20) / 4 = nbs.length by omega, m0p nbs o7]
  have x1 : mask % 256 ^ 4 = mask := by omega
  have x2 : ((lo16 interval % 256 ^ 2 : Nat) : Int) = interval := by unfold lo16; omega
  have x3 : ((lo32 dead % 256 ^ 4 : Nat) : Int) = dead := by unfold lo32; omega
  have x4 : dr % 256 ^ 4 = dr := by omega
  have x5 : bdr % 256 ^ 4 = bdr := by omega
  rw [x1, x2, x3, x4, x5]
 ·simp only at t; subst t
  simp at a2
  obtain ⟨⟨e1, e2, e3, e4, e5, e6, e7⟩, e8, e9⟩ := a2
  subst e1; subst e2; subst e3; subst e4; subst e5; subst e6; subst e7; subst e8; subst e9
  unfold a0e at a5
  have a5 := of_decide_eq_true a5
  have hT : b0x ⟨2, router, area, auth, 0, 0, 0, 0, 0, 0, [], flags, seq, heads, [], []⟩ = [5, 220, 2, UInt8.ofNat (lo8 flags)] ++ (be 4 seq ++ c03 heads) := by
   unfold b0x; simp
  have hTl : (b0x ⟨2, router, area, auth, 0, 0, 0, 0, 0, 0, [], flags, seq, heads, [], []⟩).length = 8 + 20 * heads.length := by
   rw [hT]; simp [a08, e0c]; omega
  unfold b0p
  rw [if_neg (by omega), if_pos ⟨rfl, by rw [hTl]; omega⟩, hTl, hT, e06 _ _ _ 4 4 (by rfl) (a08 _ _), b07, show (8 + 20 * heads.length - 8) / 20 = heads.length by omega]
  have s8 : ([5, 220, 2, UInt8.ofNat (lo8 flags)] ++ (be 4 seq ++ c03 heads)).drop 8 = c03 heads := by
   have := List.drop_left' (l₁ := [5, 220, 2, UInt8.ofNat (lo8 flags)] ++ be 4 seq) (l₂ := c03 heads) (i := 8) (by simp [a08])
   simpa only [List.append_assoc] using this
  have s3 : ([5, 220, 2, UInt8.ofNat (lo8 flags)] ++ (be 4 seq ++ c03 heads)).getD 3 0 = UInt8.ofNat (lo8 flags) := rfl
  rw [s8, s3, m06 flags (by omega), j0x heads o8 hwh, show seq % 256 ^ 4 = seq by omega]
 ·simp only at t; subst t
  simp at a2
  obtain ⟨⟨e1, e2, e3, e4, e5, e6, e7⟩, ⟨e8, e9⟩, e10, e11⟩ := a2
  subst e1; subst e2; subst e3; subst e4; subst e5; subst e6; subst e7; subst e8; subst e9; subst e10; subst e11
  have hT : b0x ⟨3, router, area, auth, 0, 0, 0, 0, 0, 0, [], 0, 0, [], keys, []⟩ = e0b keys := by unfold b0x; simp
  unfold b0p
  rw [if_neg (by omega), if_neg (by omega), if_pos rfl, hT, f0t, show 12 * keys.length / 12 = keys.length by omega, p0n keys o9 hwk]
 ·simp only at t; subst t
  simp at a2
  obtain ⟨⟨e1, e2, e3, e4, e5, e6, e7⟩, ⟨e8, e9⟩, e10, e11⟩ := a2
  subst e1; subst e2; subst e3; subst e4; subst e5; subst e6; subst e7; subst e8; subst e9; subst e10; subst e11
  have hT : b0x ⟨4, router, area, auth, 0, 0, 0, 0, 0, 0, [], 0, 0, [], [], lsas⟩ = be 4 lsas.length ++ c0k lsas := by unfold b0x; simp
  have hv : a0d (sub (be 4 lsas.length ++ c0k lsas) 0 4) = lsas.length := by
   unfold sub; rw [List.drop_zero, d0y, b07]; omega
  unfold b0p
  rw [if_neg (by omega), if_neg (by omega), if_neg (by omega), if_pos rfl, hT]
  unfold d02
  rw [hv, if_neg (by rw [List.length_append, a08]; omega), List.drop_left' (a08 _ _), p0o lsas hl hall']
 ·simp only at t; subst t
  simp at a2
  obtain ⟨⟨e1, e2, e3, e4, e5, e6, e7⟩, ⟨e8, e9⟩, e10, e11⟩ := a2
  subst e1; subst e2; subst e3; subst e4; subst e5; subst e6; subst e7; subst e8; subst e9; subst e10; subst e11
  have hT : b0x ⟨5, router, area, auth, 0, 0, 0, 0, 0, 0, [], 0, 0, heads, [], []⟩ = c03 heads := by unfold b0x; simp
  unfold b0p
  rw [if_neg (by omega), if_neg (by omega), if_neg (by omega), if_neg (by omega), if_pos rfl, hT, e0c, show 20 * heads.length / 20 = heads.length by omega, j0x heads o8 hwh]
theorem d0s (P : a0m) : putP P = [2, UInt8.ofNat (lo8 P.type)] ++ (be 2 (24 + (b0x P).length) ++ (be 4 P.router ++ (be 4 P.area ++ (be 2 (sumP P) ++ (be 2 (d03 P.auth) ++ (key8 P.auth ++ b0x P)))))) := by
 unfold putP j01; simp only [List.append_assoc]
theorem sub_2 (P : a0m) : sub (putP P) 2 2 = be 2 (24 + (b0x P).length) := by
 rw [d0s]; exact e06 _ _ _ _ _ rfl (a08 _ _)
theorem sub_4 (P : a0m) : sub (putP P) 4 4 = be 4 P.router := by
 have := e06 ([2, UInt8.ofNat (lo8 P.type)] ++ be 2 (24 + (b0x P).length)) (be 4 P.router) (be 4 P.area ++ (be 2 (sumP P) ++ (be 2 (d03 P.auth) ++ (key8 P.auth ++ b0x P)))) 4 4 (by simp [a08]) (a08 _ _)
 rw [d0s]; simpa only [List.append_assoc] using this
theorem sub_8 (P : a0m) : sub (putP P) 8 4 = be 4 P.area := by
 have := e06 ([2, UInt8.ofNat (lo8 P.type)] ++ be 2 (24 + (b0x P).length) ++ be 4 P.router) (be 4 P.area) (be 2 (sumP P) ++ (be 2 (d03 P.auth) ++ (key8 P.auth ++ b0x P))) 8 4 (by simp [a08]) (a08 _ _)
 rw [d0s]; simpa only [List.append_assoc] using this
theorem sub_12 (P : a0m) : sub (putP P) 12 2 = be 2 (sumP P) := by
 have := e06 ([2, UInt8.ofNat (lo8 P.type)] ++ be 2 (24 + (b0x P).length) ++ be 4 P.router ++ be 4 P.area) (be 2 (sumP P)) (be 2 (d03 P.auth) ++ (key8 P.auth ++ b0x P)) 12 2 (by simp [a08]) (a08 _ _)
 rw [d0s]; simpa only [List.append_assoc] using this
theorem sub_14 (P : a0m) : sub (putP P) 14 2 = be 2 (d03 P.auth) := by
 have := e06 ([2, UInt8.ofNat (lo8 P.type)] ++ be 2 (24 + (b0x P).length) ++ be 4 P.router ++ be 4 P.area ++ be 2 (sumP P)) (be 2 (d03 P.auth)) (key8 P.auth ++ b0x P) 14 2 (by simp [a08]) (a08 _ _)
 rw [d0s]; simpa only [List.append_assoc] using this
theorem sub_16 (P : a0m) : sub (putP P) 16 8 = key8 P.auth := by
 have := e06 ([2, UInt8.ofNat (lo8 P.type)] ++ be 2 (24 + (b0x P).length) ++ be 4 P.router ++ be 4 P.area ++ be 2 (sumP P) ++ be 2 (d03 P.auth)) (key8 P.auth) (b0x P) 16 8 (by simp [a08]) (d0k _)
 rw [d0s]; simpa only [List.append_assoc] using this
theorem r0q (P : a0m) : (putP P).drop 24 = b0x P := by
 unfold putP
 exact List.drop_left' (by rw [List.length_append, n08, d0k])
theorem take_12 (P : a0m) : (putP P).take 12 = l0w P (b0x P).length := by
 unfold putP
 rw [h0a, List.append_assoc, List.append_assoc, List.append_assoc]
 exact List.take_left' (e0o _ _)
theorem sumX_put (P : a0m) : sumX (putP P) = sumP P := by
 unfold sumX sumP
 rw [take_12, sub_14, r0q, h0a, i0p]
theorem kind_lt (a : List UInt8) : d03 a < 2 := by unfold d03; split <;> omega
theorem p04 (a : List UInt8) (h : a.length ≤ 8) : key8 a = a ++ List.replicate (8 - a.length) 0 := by
 unfold key8 h0u e01
 rw [List.take_of_length_le h, List.take_zero, List.nil_append, Nat.zero_add, List.drop_replicate]
theorem key8_inj (a b : List UInt8) (ha : i0q a = true) (hb : i0q b = true) (h : key8 a = key8 b) : a = b := by
 unfold i0q at ha hb
 rw [Bool.and_eq_true] at ha hb
 have la := of_decide_eq_true ha.1; have lb := of_decide_eq_true hb.1
 rw [p04 a la, p04 b lb] at h
 have key : ∀ (l : List UInt8) (n : Nat), (!l.any (· == 0)) = true → (l ++ List.replicate n 0).takeWhile (fun c => !(c == 0)) = l := by
  intro l n hl
  induction l with
  | nil => cases n with
   | zero => rfl
   | succ n => simp [List.replicate_succ]
  | cons c l ih =>
   simp only [List.any_cons, Bool.not_or, Bool.and_eq_true] at hl
   rw [List.cons_append, List.takeWhile_cons, if_pos hl.1, ih hl.2]
 have h1 := key a (8 - a.length) ha.2
 have h2 := key b (8 - b.length) hb.2
 rw [h] at h1
 exact h1.symm.trans h2
theorem getP_put (P : a0m) (hok : P.ok) (hl : ∀ l ∈ P.lsas, l.ok) (hz : okP P = true) : getP (putP P) P.auth = (P, 0) := by
 have hz' := hz
 unfold okP at hz'
 rw [Bool.and_eq_true] at hz'
 have hcan := hz'.1
 obtain ⟨a1, -, -, a4, -, -⟩ := c0l hcan
 have hT := g0c hz
 have hpl := h05 P
 unfold a0e at a1
 have a1 := of_decide_eq_true a1
 have hau : P.auth.length ≤ 8 := by unfold i0q at a4; rw [Bool.and_eq_true] at a4; exact of_decide_eq_true a4.1
 have h0 : (putP P).getD 0 0 = 2 := by rw [d0s]; rfl
 have h1 : (putP P).getD 1 0 = UInt8.ofNat (lo8 P.type) := by rw [d0s]; rfl
 have hk := kind_lt P.auth
 have hs : sumP P < 65536 := m01 _
 have hr := hok.router; have ha := hok.area
 have hh : b0p (((putP P).getD 1 0).toNat : Int) (a0d (sub (putP P) 4 4)) (a0d (sub (putP P) 8 4)) P.auth ((putP P).drop 24) = (P, 0) := by
  rw [h1, m06 P.type (by omega), sub_4, sub_8, r0q, b07, b07, show P.router % 256 ^ 4 = P.router by omega, show P.area % 256 ^ 4 = P.area by omega]
  exact r0f P hok hl hz
 rw [r0m (putP P) P.auth (by omega) h0 (by rw [sub_2, b07, hpl]; omega) (by rw [sub_12, b07, sumX_put]; omega) (by omega) (by rw [sub_14, b07]; omega) (sub_16 P) P 0 hh]
 rw [if_neg (by simp)]
 unfold f0i
 rw [if_pos ⟨hz, rfl⟩]
theorem r0g (t : Int) (r ar : Nat) (a x : List UInt8) : (b0p t r ar a x).1.auth = a := by
 unfold b0p e0e
 split
 ·rfl
 ·split
  ·rfl
  ·split
   ·rfl
   ·split
    ·rfl
    ·split <;> rfl
theorem q0e (P : a0m) (hz : okP P = true) (a : List UInt8) (h : (getP (putP P) a).2 = 0) : a = P.auth := by
 unfold okP at hz
 rw [Bool.and_eq_true] at hz
 obtain ⟨-, -, -, a4, -, -⟩ := c0l hz.1
 unfold getP at h
 split at h
 ·simp at h
 ·split at h
  ·simp at h
  ·split at h
   ·simp at h
   ·split at h
    ·simp at h
    ·rename_i hk
     split at h
     ·rename_i he; exact absurd h he
     ·split at h
      ·rename_i hc
       have h1 := hc.1
       unfold okP at h1
       rw [Bool.and_eq_true] at h1
       obtain ⟨-, -, -, b4, -, -⟩ := c0l h1.1
       rw [r0g] at b4
       have hkk : key8 P.auth = key8 a := by
        rw [← sub_16 P]
        exact Classical.byContradiction fun hn => hk (.inr (.inr hn))
       exact (key8_inj _ _ a4 b4 hkk).symm
      ·simp at h
end Go.Proofs.Ytmggbljkehclpaa
