/- PJ QA QC -/
import Derived.Test.YtmggbljkehclpaaG15
import Derived.Test.YtmggbljkehclpaaG16
set_option linter.unusedVariables false
set_option linter.unusedSimpArgs false
namespace Go.Proofs.Ytmggbljkehclpaa
open Go.RowKit
theorem m0s (A R : List UInt8) (a b x y : UInt8) (n : Nat) (hA : A.length = n) : ((A ++ [x, y] ++ R).set n a).set (n + 1) b = A ++ [a, b] ++ R := by
 subst hA
 apply List.ext_getElem?
 intro j
 simp only [List.getElem?_set, List.length_set, List.append_assoc]
 by_cases h1 : A.length = j
 ·subst h1
  rw [if_neg (by omega), if_pos rfl, if_pos (by simp)]
  simp
 ·by_cases h2 : A.length + 1 = j
  ·subst h2
   rw [if_pos rfl, if_pos (by simp)]
   simp
  ·rw [if_neg h2, if_neg h1]
   by_cases h3 : j < A.length
   ·rw [List.getElem?_append_left h3, List.getElem?_append_left h3]
   ·have e1 : ¬ j - A.length < ([x, y] : List UInt8).length := by simp only [List.length_cons, List.length_nil]; omega
    have e2 : ¬ j - A.length < ([a, b] : List UInt8).length := by simp only [List.length_cons, List.length_nil]; omega
    simp only [List.getElem?_append, if_neg h3, if_neg e1, if_neg e2]
    rfl
theorem OwnB.lay2 {w0 W : World} {g n c : Nat} {X : List UInt8} (h : OwnB w0 W (.slice (some ⟨g, 0, none⟩) n c) X) (a b : UInt8) (k : Nat) (hk : k + 1 < X.length) :
 OwnB w0 (W.setCells g k ([a, b].map bv)) (.slice (some ⟨g, 0, none⟩) n c) ((X.set k a).set (k + 1) b) ∧ W.there g k 2 := by
 obtain ⟨g', e', -, hcell, hset⟩ := h.writes (by omega)
 injection e' with e'; injection e' with e'; subst e'
 have h1 := hset k a
 obtain ⟨g2, e2, -, -, hset2⟩ := h1.writes (by simp; omega)
 injection e2 with e2; injection e2 with e2; subst e2
 have h2 := hset2 (k + 1) b
 refine ⟨h2, fun j hj => ?_⟩
 have := hcell (k + j) (by omega)
 exact ⟨by rw [this.1]; simp, this.2⟩
theorem m0o {P : Program} {w : World} {o : Oper} {a : Act} {K : Act → World → Prop} {Q : Exit → Act → World → Prop} (d s : Operand) (dT sT : TypeId)
 (ho : o.op = .call { callee := .builtin .copy, args := #[d, s], argTypes := #[dT, sT] }) (elem : TypeId) (hu : P.underlying dT = some (.slice elem)) (hsz : (P.info? elem).map (·.size) = some 1)
 (w0 : World) (g n c : Nat) (X : List UInt8) (hO : OwnB w0 w (.slice (some ⟨g, 0, none⟩) n c) X) (off dCap : Nat) (sb so sCap : Nat) (hd : a.eval d = .slice (some ⟨g, off, none⟩) 2 dCap) (hs : a.eval s = .slice (some ⟨sb, so, none⟩) 2 sCap)
 (x y : UInt8) (hsrc : w.rangeAt sb so ([x, y].map bv)) (hx : off + 1 < X.length)
 (h : OwnB w0 (w.setCells g off ([x, y].map bv)) (.slice (some ⟨g, 0, none⟩) n c) ((X.set off x).set (off + 1) y) → a02 (fun k => k = g) w (w.setCells g off ([x, y].map bv)) → K (a.put o.dst (goInt 2)) (w.setCells g off ([x, y].map bv))) : Oper.wp P o a w K Q := by
 obtain ⟨h1, h2⟩ := hO.lay2 x y off hx
 have hrun := run_copy_cells (P := P) w dT sT o.type elem g off 2 dCap ⟨sb, so, none⟩ 2 sCap ([x, y].map bv) hu hsz (by rfl) (fun j v hv => by rw [Addr.add_mid]; exact hsrc j v hv) (fun j hj => (h2 j (by simpa using hj)).1) (fun j hj => (h2 j (by simpa using hj)).2) (o09 [x, y])
 have h' := h h1 (a02.setCells (F := fun k => k = g) (.inl rfl) _ _ _ (a02.refl _ _))
 unfold Oper.wp
 simp only [execOp, ho, resolve, invoke, builtin, Sem.run_bind, Sem.run_pure, Result.andThen_ok, List.map_toArray, List.map_cons, List.map_nil, hd, hs] at hrun ⊢
 rw [hrun]
 exact h'
theorem i0y : be 2 0 = [0, 0] := rfl
def m06 (p : a0x) (n : Nat) : List UInt8 := [2, UInt8.ofNat (lo8 p.type)] ++ be 2 (24 + n) ++ be 4 p.router ++ be 4 p.area
theorem e0l (p : a0x) (n : Nat) : (m06 p n).length = 12 := by unfold m06; simp [a0b]
theorem i0w (p : a0x) (n s : Nat) : i0r p n s = m06 p n ++ be 2 s ++ be 2 (e01 p.auth) := by unfold i0r m06; simp
def i0c (p : a0x) : List UInt8 := m06 p (e05 p).length ++ [0, 0] ++ (be 2 (e01 p.auth) ++ (key8 p.auth ++ e05 p))
theorem q0r (p : a0x) : (i0c p).length = 24 + (e05 p).length := by unfold i0c; simp [e0l, a0b, d0v]; omega
theorem p0m (p : a0x) : sumX (i0c p) = sumP p := by
 unfold sumX sumP
 have h1 : (i0c p).take 12 = m06 p (e05 p).length := by
  unfold i0c
  rw [List.append_assoc, List.take_append_of_le_length (by rw [e0l]; omega), List.take_of_length_le (by rw [e0l]; omega)]
 have h2 : (i0c p).drop 14 = be 2 (e01 p.auth) ++ (key8 p.auth ++ e05 p) := by
  unfold i0c
  rw [List.drop_append_of_le_length (by simp [e0l]), List.drop_of_length_le (by simp [e0l])]; rfl
 have h3 : sub (i0c p) 14 2 = be 2 (e01 p.auth) := by
  unfold sub
  rw [h2, List.take_append_of_le_length (by rw [a0b]; omega), List.take_of_length_le (by rw [a0b]; omega)]
 have h4 : (i0c p).drop 24 = e05 p := by
  rw [show (24 : Nat) = 14 + 10 from rfl, ← List.drop_drop, h2, ← List.append_assoc, List.drop_append_of_le_length (by simp [a0b, d0v]), List.drop_of_length_le (by simp [a0b, d0v])]; rfl
 rw [h1, h3, h4, i0w, i0y]
theorem putP_eq (p : a0x) : putP p = ((i0c p).set 12 (UInt8.ofNat (sumP p / 256))).set 13 (UInt8.ofNat (sumP p)) := by
 unfold i0c putP
 rw [m0s _ _ _ _ _ _ 12 (e0l _ _), i0w, be2]
 simp
theorem j0f (w : World) (b o : Nat) (v : Value) (h : w.cell? ⟨b, o, none⟩ = some v) : (loadVar 9 ⟨b, o, none⟩).run Try.prog w = .ok v w := by simp [go_sem, h]
theorem p0y (g c : Nat) (x : List UInt8) (n S : Nat) (hn : Hid (x.length = n)) (hx : 24 ≤ n) (hx2 : n ≤ 900000) (hc : n ≤ c) (w : World) (hr : Hid (w.rangeAt g 0 (x.map bv))) (hS : Hid (sumX x = S)) :
 Calls Try.prog 21 #[.slice (some ⟨g, 0, none⟩) n c] w fun e w' => e = .returned (.int .u16 S) ∧ a02 (fun _ => False) w w' := by
 have e := hn.out
 subst e
 exact j07 g 0 c x S hx hx2 hc w hr hS
theorem n0f (l : List UInt8) : inet l < 65536 := by unfold inet; omega
theorem i0z (w0 : World) (n : Nat) (hn : n < 65536) (w : World) (h : w0.heap.size ≤ w.heap.size) :
 Calls Try.prog 17 #[.slice none 0 0, .int .u16 n] w fun e w' => ∃ p c, e = .returned (.slice p 2 c) ∧ OwnB w0 w' (.slice p 2 c) (be 2 n) ∧ a02 (fun _ => False) w w' := by
 refine (c0c w0 _ [] n hn (by simp) _ (Hi (OwnB.nil w0 w h))).mono ?_
 rintro e w' ⟨p, c, rfl, hO, hg⟩
 rw [List.nil_append, show ([] : List UInt8).length + (be 2 n).length = 2 by simp [a0b]] at hO
 exact ⟨p, c, by rw [show ([] : List UInt8).length + (be 2 n).length = 2 by simp [a0b]], hO, hg.nil⟩
theorem OwnB.at {w0 w : World} {p : Option Addr} {n c : Nat} {x : List UInt8} (h : OwnB w0 w (.slice p n c) x) (h0 : 0 < x.length) : ∃ g, p = some ⟨g, 0, none⟩ ∧ w.rangeAt g 0 (x.map bv) ∧ n = x.length ∧ n ≤ c ∧ w0.heap.size ≤ g := by
 obtain ⟨g, e, hg, -, -⟩ := h.writes h0
 subst e
 obtain ⟨q, d, e2, -, -, hr⟩ := h.bytes
 injection e2 with e3 e4 e5
 obtain ⟨b, o, e6, hra⟩ := hr h0
 rw [e6] at e3; injection e3 with e3; injection e3 with e3 e7
 subst e3; subst e7
 exact ⟨g, rfl, hra, e4, h.cap, hg⟩
def h0v (p : a0x) : List UInt8 :=
 if p.type = 1 then m07 p
 else if p.type = 2 then [5, 220, 2, UInt8.ofNat (lo8 p.flags)] ++ be 4 p.seq
 else if p.type = 3 then f0m p.keys
 else if p.type = 4 then be 4 p.lsas.length ++ d0r p.lsas
 else []
theorem bodyP_1 {p : a0x} (t : p.type = 1) : h0v p = m07 p := by unfold h0v; rw [if_pos t]
theorem bodyP_2 {p : a0x} (t : p.type = 2) : h0v p = [5, 220, 2, UInt8.ofNat (lo8 p.flags)] ++ be 4 p.seq := by unfold h0v; rw [if_neg (by omega), if_pos t]
theorem bodyP_3 {p : a0x} (t : p.type = 3) : h0v p = f0m p.keys := by unfold h0v; rw [if_neg (by omega), if_neg (by omega), if_pos t]
theorem bodyP_4 {p : a0x} (t : p.type = 4) : h0v p = be 4 p.lsas.length ++ d0r p.lsas := by unfold h0v; rw [if_neg (by omega), if_neg (by omega), if_neg (by omega), if_pos t]
theorem bodyP_5 {p : a0x} (t : p.type = 5) : h0v p = [] := by unfold h0v; rw [if_neg (by omega), if_neg (by omega), if_neg (by omega), if_neg (by omega)]
theorem l0e {p : a0x} (h : canP p = true) : e05 p = h0v p ++ c0u p.heads := by
 obtain ⟨a1, a2, -⟩ := d0s h
 have nh : p.type ≠ 2 → p.type ≠ 5 → p.heads = [] := fun n2 n5 => by
  unfold e07 at a2
  rw [decide_eq_false n2, decide_eq_false n5] at a2
  simp at a2
  simpa using a2.2.2.1
 unfold e05 h0v
 by_cases t1 : p.type = 1
 ·rw [if_pos t1, if_pos t1, nh (by omega) (by omega)]; simp [c0u]
 ·rw [if_neg t1, if_neg t1]
  by_cases t2 : p.type = 2
  ·rw [if_pos t2, if_pos t2]
  ·rw [if_neg t2, if_neg t2]
   by_cases t3 : p.type = 3
   ·rw [if_pos t3, if_pos t3, nh (by omega) (by omega)]; simp [c0u]
   ·rw [if_neg t3, if_neg t3]
    by_cases t4 : p.type = 4
    ·rw [if_pos t4, if_pos t4, nh (by omega) (by omega)]; simp [c0u]
    ·rw [if_neg t4, if_neg t4]; rfl
theorem m0e {p : a0x} (h : canP p = true) : p.type = 1 ∨ p.type = 2 ∨ p.type = 3 ∨ p.type = 4 ∨ p.type = 5 := by
 have := (d0s h).1
 unfold a0e at this
 have := of_decide_eq_true this
 omega
theorem q0m {p : a0x} (h : canP p = true) : p.nbs.length ≤ 20 ∧ p.heads.length ≤ 20 ∧ p.keys.length ≤ 20 ∧ p.lsas.length ≤ 20 ∧ p.auth.length ≤ 8 := by
 obtain ⟨a1, a2, a3, a4, a5, a6⟩ := d0s h
 obtain ⟨b1, b2, b3, b4, b5⟩ := e0v a6
 refine ⟨?_, b1, b3, b5, ?_⟩
 ·by_cases t : p.type = 1
  ·have := a3 t
   unfold h02 at this
   simp only [Bool.and_eq_true, decide_eq_true_eq] at this
   exact this.2.2.2
  ·unfold e07 at a2
   rw [decide_eq_false t] at a2
   simp at a2
   have := a2.1
   unfold g0l at this
   simp at this
   rw [this.2.2.2.2.2.2]; simp
 ·unfold m0g at a4
  rw [Bool.and_eq_true] at a4
  exact of_decide_eq_true a4.1
theorem q0n {p : a0x} (h : okP p = true) : (h0v p).length ≤ 10084 := by
 have h1 := h09 h
 unfold okP at h
 rw [Bool.and_eq_true] at h
 rw [l0e h.1, List.length_append] at h1
 omega
theorem p04 (p : a0x) (n : Nat) : [2, UInt8.ofNat (lo8 p.type)] ++ be 2 (24 + n) ++ be 4 p.router ++ be 4 p.area ++ [0, 0, 0, UInt8.ofNat (e01 p.auth)] = i0r p n 0 := by
 unfold i0r
 have : be 2 (e01 p.auth) = [0, UInt8.ofNat (e01 p.auth)] := by unfold e01; split <;> rfl
 rw [this, i0y]; simp
theorem putP_set (p : a0x) : putP p = ((i0r p (e05 p).length 0).set 12 (UInt8.ofNat (sumP p / 256))).set 13 (UInt8.ofNat (sumP p)) ++ key8 p.auth ++ e05 p := by
 unfold putP
 have h : ((i0r p (e05 p).length 0).set 12 (UInt8.ofNat (sumP p / 256))).set 13 (UInt8.ofNat (sumP p)) = i0r p (e05 p).length (sumP p) := by
  rw [i0w, i0w, i0y, List.append_assoc, ← List.append_assoc, m0s _ _ _ _ _ _ 12 (e0l _ _), be2 (sumP p)]
 rw [h]
def b06 (P : a0x) (y : List UInt8) (hs : Nat) : a0x := { P with heads := d0j (y.drop hs) ((y.length - hs) / 20) }
def f08 (P : a0x) (x : List UInt8) : a0x × Int := if okP P = true ∧ putP P = x then (P, 0) else (b0y, 3)
theorem n0v {P : a0x} (h : P.type ≠ 1) (h2 : P.type ≠ 2) (h3 : P.type ≠ 3) (h4 : P.type ≠ 4) (h5 : P.type ≠ 5) : okP P = false := by
 cases e : okP P with
 | false => rfl
 | true =>
  unfold okP at e
  rw [Bool.and_eq_true] at e
  rcases m0e e.1 with t | t | t | t | t
  ·exact absurd t h
  ·exact absurd t h2
  ·exact absurd t h3
  ·exact absurd t h4
  ·exact absurd t h5
theorem f0s (x : List UInt8) : d0j x 0 = [] := by unfold d0j; simp
section
variable (x a : List UInt8)
theorem getP_go (h1 : ¬ x.length < 24) (h2 : x.getD 0 0 = 2) (h3 : a0d (sub x 2 2) = x.length) (h4 : a0d (sub x 12 2) = sumX x) (h5 : ¬ 8 < a.length) (h6 : a0d (sub x 14 2) = e01 a) (h7 : sub x 16 8 = key8 a) (P : a0x) (e : Int)
 (hP : b0p ((x.getD 1 0).toNat : Int) (a0d (sub x 4 4)) (a0d (sub x 8 4)) a (x.drop 24) = (P, e)) : getP x a = if e ≠ 0 then (b0y, e) else f08 P x := by
 unfold getP
 rw [if_neg h1, if_neg (by rintro (h | h); exact h h2; exact h h3), if_neg (fun h => h h4), if_neg (by rintro (h | h | h); exact h5 h; exact h h6; exact h h7), hP]
 by_cases he : e ≠ 0
 ·rw [if_pos he, if_pos he]
 ·rw [if_neg he, if_neg he]; rfl
end
section
variable (rt ar : Nat) (a y x : List UInt8)
theorem hear_1 (hy : 20 ≤ y.length) : b0p 1 rt ar a y = (b06 ⟨1, rt, ar, a, a0d (sub y 0 4), (a0d (sub y 4 2) : Nat), (a0d (sub y 8 4) : Nat), ((y.getD 7 0).toNat : Int), a0d (sub y 12 4), a0d (sub y 16 4), c09 (y.drop 20) ((y.length - 20) / 4), 0, 0, [], [], []⟩ y y.length, 0) := by
 unfold b0p b06; rw [if_pos ⟨rfl, hy⟩]; simp [f0s]
theorem hear_2 (hy : 8 ≤ y.length) : b0p 2 rt ar a y = (b06 ⟨2, rt, ar, a, 0, 0, 0, 0, 0, 0, [], ((y.getD 3 0).toNat : Int), a0d (sub y 4 4), [], [], []⟩ y 8, 0) := by
 unfold b0p b06; rw [if_neg (by rintro ⟨h, _⟩; cases h), if_pos ⟨rfl, hy⟩]
theorem hear_3 : b0p 3 rt ar a y = (b06 ⟨3, rt, ar, a, 0, 0, 0, 0, 0, 0, [], 0, 0, [], e08 y (y.length / 12), []⟩ y y.length, 0) := by
 unfold b0p b06; rw [if_neg (by rintro ⟨h, _⟩; cases h), if_neg (by rintro ⟨h, _⟩; cases h), if_pos rfl]; simp [f0s]
theorem hear_4 (z : List UInt8) : b0p 4 rt ar a y = (b06 ⟨4, rt, ar, a, 0, 0, 0, 0, 0, 0, [], 0, 0, [], [], (c0t y).1⟩ z z.length, (c0t y).2) := by
 unfold b0p b06; rw [if_neg (by rintro ⟨h, _⟩; cases h), if_neg (by rintro ⟨h, _⟩; cases h), if_neg (by decide), if_pos rfl]; simp [f0s]
theorem hear_5 : b0p 5 rt ar a y = (b06 (e03 5 rt ar a) y 0, 0) := by
 unfold b0p b06 e03; rw [if_neg (by rintro ⟨h, _⟩; cases h), if_neg (by rintro ⟨h, _⟩; cases h), if_neg (by decide), if_neg (by decide), if_pos rfl]; simp
theorem hear_o {t : Int} (h1 : t ≠ 1) (h2 : t ≠ 2) (h3 : t ≠ 3) (h4 : t ≠ 4) (h5 : t ≠ 5) : b0p t rt ar a y = (e03 t rt ar a, 0) := by
 unfold b0p; rw [if_neg (fun h => h1 h.1), if_neg (fun h => h2 h.1), if_neg h3, if_neg h4, if_neg h5]
theorem last_o {t : Int} (h1 : t ≠ 1) (h2 : t ≠ 2) (h3 : t ≠ 3) (h4 : t ≠ 4) (h5 : t ≠ 5) : f08 (e03 t rt ar a) x = f08 (b06 (e03 t rt ar a) y 0) x := by
 unfold f08
 rw [if_neg (fun h => by rw [n0v (P := e03 t rt ar a) h1 h2 h3 h4 h5] at h; cases h.1), if_neg (fun h => by rw [n0v (P := b06 (e03 t rt ar a) y 0) h1 h2 h3 h4 h5] at h; cases h.1)]
theorem hear_s1 (hy : y.length < 20) : b0p 1 rt ar a y = (e03 1 rt ar a, 0) := by
 unfold b0p; rw [if_neg (fun h => by omega), if_neg (by rintro ⟨h, _⟩; cases h), if_neg (by decide), if_neg (by decide), if_neg (by decide)]
theorem last_s1 : f08 (e03 1 rt ar a) x = (b0y, 3) := by
 unfold f08; rw [if_neg]
 rintro ⟨h, -⟩
 unfold okP at h
 rw [Bool.and_eq_true] at h
 have := (d0s h.1).2.2.1 rfl
 unfold h02 a0e e03 at this
 simp at this
theorem hear_s2 (hy : y.length < 8) : b0p 2 rt ar a y = (e03 2 rt ar a, 0) := by
 unfold b0p; rw [if_neg (by rintro ⟨h, _⟩; cases h), if_neg (fun h => by omega), if_neg (by decide), if_neg (by decide), if_neg (by decide)]
theorem last_s2 (hx : x.length < 32) : f08 (e03 2 rt ar a) x = (b0y, 3) := by
 unfold f08; rw [if_neg]
 rintro ⟨-, h⟩
 have h1 := h0f (e03 2 rt ar a)
 rw [h] at h1
 have h2 : (e05 (e03 2 rt ar a)).length = 8 := by
  unfold e05 e03
  rw [if_neg (show ¬ (2 : Int) = 1 by decide), if_pos rfl]; simp [a0b, f09]
 omega
end
end Go.Proofs.Ytmggbljkehclpaa
