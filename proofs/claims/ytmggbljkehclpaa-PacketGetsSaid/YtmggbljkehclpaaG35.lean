/- QE QEt QE1 QE2 -/
import Derived.Test.YtmggbljkehclpaaG17
import Derived.Test.YtmggbljkehclpaaG20
import Derived.Test.YtmggbljkehclpaaG23
import Derived.Test.YtmggbljkehclpaaG27
import Derived.Test.YtmggbljkehclpaaG28
import Derived.Test.YtmggbljkehclpaaG32
import Derived.Test.YtmggbljkehclpaaG34
import Derived.Deep.CutBlock
set_option linter.unusedVariables false
set_option linter.unusedSimpArgs false
namespace Go.Proofs.Ytmggbljkehclpaa
open Go.RowKit
theorem sum_cut {x : List UInt8} (h : 24 ≤ x.length) : ((x.take 16 ++ x.drop 24).set 12 0).set 13 0 = x.take 12 ++ [0, 0] ++ sub x 14 2 ++ x.drop 24 := by
 have h1 : x.take 16 = x.take 12 ++ [x[12]'(by omega), x[13]'(by omega)] ++ sub x 14 2 := by
  unfold sub
  apply List.ext_getElem?
  intro j
  have l12 : (x.take 12).length = 12 := by rw [List.length_take]; omega
  by_cases a : j < 12
  ·rw [List.append_assoc, List.getElem?_append_left (by omega), List.getElem?_take_of_lt (by omega), List.getElem?_take_of_lt (by omega)]
  ·by_cases b : j < 16
   ·rw [List.getElem?_take_of_lt (by omega), List.append_assoc, List.getElem?_append_right (by omega), l12]
    by_cases c : j = 12
    ·subst c; simp
    ·by_cases d : j = 13
     ·subst d; simp
     ·rw [List.getElem?_append_right (by simp; omega), List.getElem?_take_of_lt (by simp; omega), List.getElem?_drop]
      congr 1; simp; omega
   ·rw [List.getElem?_eq_none (by simp; omega), List.getElem?_eq_none (by simp; omega)]
 rw [h1, List.append_assoc, m0s _ _ _ _ _ _ 12 (by rw [List.length_take]; omega), ← List.append_assoc]
theorem u8_ne {y : UInt8} : (y ≠ 2) ↔ y.toNat ≠ 2 := by
 constructor
 ·intro h1 h2; apply h1; apply UInt8.toNat_inj.mp; exact h2
 ·intro h1 h2; apply h1; rw [h2]; rfl
def l0k : List Value → Nat → List Value → List Value
 | cs, _, [] => cs
 | cs, o, v :: r => l0k (cs.set o v) (o + 1) r
theorem a06.sets {B : Nat} {t : TypeId} : ∀ (l : List Value) (o : Nat) {w : World} {cs : List Value}, a06 w B t cs → a06 (w.setCells B o l) B t (l0k cs o l)
 | [], _, _, _, h => h
 | v :: r, o, w, _, h => a06.sets r (o + 1) (h.set o v)
theorem l0j : ∀ (l : List Value) (o : Nat) (cs : List Value), o + l.length ≤ cs.length → l0k cs o l = cs.take o ++ l ++ cs.drop (o + l.length)
 | [], o, cs, _ => by simp [l0k]
 | v :: r, o, cs, h => by
  simp only [List.length_cons] at h
  rw [l0k, l0j r (o + 1) (cs.set o v) (by simp; omega)]
  rw [List.take_succ_eq_append_getElem (by simp; omega), List.getElem_set_self, List.take_set_of_le (Nat.le_refl _), List.drop_set_of_lt (by omega)]
  simp only [List.length_cons, List.append_assoc, List.singleton_append]
  rw [show o + 1 + r.length = o + (r.length + 1) by omega]
theorem a06.whole {w : World} {B : Nat} {t : TypeId} {cs : List Value} (h : a06 w B t cs) (l : List Value) (hl : l.length = cs.length) : a06 (w.setCells B 0 l) B t l := by
 have h1 := h.sets l 0
 rw [l0j l 0 cs (by omega)] at h1
 rw [List.drop_of_length_le (by omega)] at h1
 simpa using h1
theorem g0p : (Try.prog.info? 73).map (fun i => (i.zero, i.size, i.bytes)) = some (some (.agg (Ha 0 0 0 0 0 0 0)), 7, 48) := by kernel_rfl
theorem OwnR.ne_blk {α : Type} {t sz : Nat} {cv : α → List Value} {w0 w : World} {v : Value} {xs : List α} (h : OwnR t sz cv w0 w v xs) {B : Nat} {t2 : TypeId} {cs : List Value} (hb : a06 w B t2 cs) (hne : t ≠ t2) : ∀ k, v.ownBlock = some k → k ≠ B := by
 rintro k e rfl
 rcases h.1.2 with ⟨e1, -⟩ | ⟨g, cap, cur, e1, -, hg, -⟩
 ·rw [e1] at e; simp [Value.ownBlock] at e
 ·rw [e1] at e
  simp only [Value.ownBlock, Option.some.injEq] at e
  subst e
  have hb2 : w.heap[g]? = _ := hb
  rw [hg] at hb2
  injection hb2 with hb2
  injection hb2 with _ hb2
  exact hne hb2
theorem OwnN.ne_blkP {w0 w : World} {v : Value} {xs : List Nat} (h : OwnN w0 w v xs) {B : Nat} {cs : List Value} (hb : a06 w B 30 cs) : ∀ k, v.ownBlock = some k → k ≠ B := by
 rintro k e rfl
 rcases h.1.2 with ⟨e1, -⟩ | ⟨g, cap, cur, e1, -, hg, -⟩
 ·rw [e1] at e; simp [Value.ownBlock] at e
 ·rw [e1] at e
  simp only [Value.ownBlock, Option.some.injEq] at e
  subst e
  have hb2 : w.heap[g]? = _ := hb
  rw [hg] at hb2
  injection hb2 with hb2
  injection hb2 with _ hb2
  exact absurd hb2 (by decide)
structure g0n (w0 w : World) (v : Value) (ms : List LsaM) : Prop where
 own : OwnR 80 9 d0k w0 w v ms
 in_ : ∀ m ∈ ms, f0n w m
 fr : ∀ m ∈ ms, g0c w0.heap.size m
 sep : ∀ m ∈ ms, SepM v m
theorem g0n.nil (w0 w : World) (h : w0.heap.size ≤ w.heap.size) : g0n w0 w (.slice none 0 0) [] := ⟨OwnR.nil _ _ h, by simp, by simp, by simp⟩
theorem g0n.keep {w0 w w' : World} {v : Value} {ms : List LsaM} (h : g0n w0 w v ms) (k : a02 (fun _ => False) w w') : g0n w0 w' v ms :=
 ⟨h.own.keep k (fun _ _ f => f), fun m hm => (h.in_ m hm).keep k, h.fr, h.sep⟩
theorem g0n.push {w0 wb w1 : World} {v : Value} {ms : List LsaM} (h : g0n w0 wb v ms) (m : LsaM) {p : Option Addr} {n c : Nat} (hown : OwnR 80 9 d0k w0 w1 (.slice p n c) (ms ++ [m])) (g : d06 wb v p n c w1) (hin : f0n wb m) (hfr : g0c w0.heap.size m) (hsep : SepM v m) : g0n w0 w1 (.slice p n c) (ms ++ [m]) := by
 have hi : ∀ m' ∈ ms ++ [m], f0n wb m' := fun m' hm => by
  rcases List.mem_append.1 hm with h1 | h1
  ·exact h.in_ m' h1
  ·simp at h1; subst h1; exact hin
 have hs : ∀ m' ∈ ms ++ [m], SepM v m' := fun m' hm => by
  rcases List.mem_append.1 hm with h1 | h1
  ·exact h.sep m' h1
  ·simp at h1; subst h1; exact hsep
 refine ⟨hown, fun m' hm => ⟨(hi m' hm).1.keepF g.k (fun h0 i e hv => (hs m' hm i hv).1 h0 _ _ e), (hi m' hm).2.keepF g.k (fun h0 i e hv => (hs m' hm i hv).2 h0 _ _ e)⟩, fun m' hm => ?_, fun m' hm k e => ⟨fun h0 n' c' e' => ?_, fun h0 n' c' e' => ?_⟩⟩
 ·rcases List.mem_append.1 hm with h1 | h1
  ·exact h.fr m' h1
  ·simp at h1; subst h1; exact hfr
 ·rcases g.s k e with e2 | e2
  ·exact (hs m' hm k e2).1 h0 _ _ e'
  ·have := (hi m' hm).1.lt h0 k _ _ e'; omega
 ·rcases g.s k e with e2 | e2
  ·exact (hs m' hm k e2).2 h0 _ _ e'
  ·have := (hi m' hm).2.lt h0 k _ _ e'; omega
theorem g0n.keepB {w0 w w' : World} {v : Value} {ms : List LsaM} {B : Nat} (h : g0n w0 w v ms) (k : a02 (fun i => i = B) w w') (hB : B < w0.heap.size) (hne : ∀ i, v.ownBlock = some i → i ≠ B) : g0n w0 w' v ms :=
 ⟨h.own.keep k (fun i e h => hne i e h), fun m hm => ⟨(h.in_ m hm).1.keepF k (fun _ i e h1 => by have := (h.fr m hm).1 i _ _ e; omega), (h.in_ m hm).2.keepF k (fun _ i e h1 => by have := (h.fr m hm).2 i _ _ e; omega)⟩, h.fr, h.sep⟩
theorem h0e : (Try.prog.info? 71).map (fun i => (i.zero, i.size, i.bytes)) = some (some (.agg #[.int .i64 0, .int .u32 0, .int .u32 0]), 3, 16) := by kernel_rfl
theorem h0d : (Try.prog.info? 80).map (fun i => (i.zero, i.size, i.bytes)) = some (some (.agg Zl), 9, 96) := by kernel_rfl
theorem q0e {P : a0x} (h : P.ok) (y : List UInt8) (hs : Nat) (hy : y.length ≤ 9223372036854775807) : (b06 P y hs).ok :=
 { h with heads := k0v _ _, hl := by show (d0j _ _).length ≤ _; rw [c0v]; omega }
theorem d0t {w : World} {py : Option Addr} {ny cy : Nat} {yl : List UInt8} (h : ∀ W, a02 (fun _ => False) w W → a0a W (.slice py ny cy) yl) (h0 : 0 < yl.length) :
 ∃ gy oy, py = some ⟨gy, oy, none⟩ ∧ Hid (∀ W, a02 (fun _ => False) w W → W.rangeAt gy oy (yl.map bv)) := by
 obtain ⟨p, c, e, -, -, hb⟩ := h w (a02.refl _ _)
 obtain ⟨g, o, rfl, -⟩ := hb h0
 injection e with e1 e2 e3
 refine ⟨g, o, e1, Hi (fun W k => ?_)⟩
 obtain ⟨p', c', e', -, -, hb'⟩ := h W k
 obtain ⟨g', o', rfl, hr⟩ := hb' h0
 injection e' with e1' e2' e3'
 rw [e1] at e1'
 injection e1' with e1'
 injection e1' with e1' e1''
 subst e1'; subst e1''
 exact hr
theorem g0f (x : List UInt8) (i n m : Nat) (h : i + n ≤ m) : sub (x.take m) i n = sub x i n := by
 unfold sub
 rw [List.drop_take, List.take_take, Nat.min_eq_left (by omega)]
theorem n0g (x : List UInt8) : a0h (x.take 20) = a0h x := by
 unfold a0h
 rw [g0f _ _ _ _ (by omega), g0f _ _ _ _ (by omega), g0f _ _ _ _ (by omega), g0f _ _ _ _ (by omega), g0f _ _ _ _ (by omega), g0f _ _ _ _ (by omega)]
 rw [List.getD_eq_getElem?_getD, List.getD_eq_getElem?_getD, List.getElem?_take_of_lt (by omega)]
theorem l0s (g o c n : Nat) (l : List UInt8) (age type seq len : Int) (lid adv sum : Nat) (w : World) (hn : Hid (l.length = n)) (hl : 20 ≤ n) (hc : n ≤ c) (hr : Hid (w.rangeAt g o (l.map bv))) (hh : Hid (a0h l = ⟨age, type, lid, adv, seq, sum, len⟩)) (hn9 : n ≤ 1000000) :
 Calls Try.prog 34 #[.slice (some ⟨g, o, none⟩) n c] w fun e w' => e = .returned (.agg (Ha age type lid adv seq sum len)) ∧ a02 (fun _ => False) w w' := by
 have e := hn.out
 subst e
 exact d0x g o c l hl (by omega) hc age type seq len lid adv sum w hr hh
def cR : Code → Code | .seq _ b => b | c => c
def cL : Code → Code | .seq a _ => a | c => c
noncomputable def getX : Code := cR (cR (cR (cR (cR (cR (cR (cR (cR (cR (cR (cR (cR (cR (Try.f11.body.getD .skip))))))))))))))
noncomputable def m08 : Code := cR (cL getX)
noncomputable def getTail : Code := cR getX
def gd (T : Array Value) (i : Nat) : Value := T.getD i undef
theorem q0u (T : Array Value) (n : Nat) (h : T.size = n) : T = ((List.range n).map fun i => gd T i).toArray := by
 subst h
 unfold gd
 apply Array.ext
 ·simp
 ·intro i h1 h2
  simp [Array.getD, h1]
set_option maxRecDepth 100000 in
set_option maxHeartbeats 16000000 in
theorem g0j {T : Array Value} (h : T.size = 127) : T = #[gd T 0, gd T 1, gd T 2, gd T 3, gd T 4, gd T 5, gd T 6, gd T 7, gd T 8, gd T 9, gd T 10, gd T 11, gd T 12, gd T 13, gd T 14, gd T 15, gd T 16, gd T 17, gd T 18, gd T 19, gd T 20, gd T 21, gd T 22, gd T 23, gd T 24, gd T 25, gd T 26, gd T 27, gd T 28, gd T 29, gd T 30, gd T 31, gd T 32, gd T 33, gd T 34, gd T 35, gd T 36, gd T 37, gd T 38, gd T 39, gd T 40, gd T 41, gd T 42, gd T 43, gd T 44, gd T 45, gd T 46, gd T 47, gd T 48, gd T 49, gd T 50, gd T 51, gd T 52, gd T 53, gd T 54, gd T 55, gd T 56, gd T 57, gd T 58, gd T 59, gd T 60, gd T 61, gd T 62, gd T 63, gd T 64, gd T 65, gd T 66, gd T 67, gd T 68, gd T 69, gd T 70, gd T 71, gd T 72, gd T 73, gd T 74, gd T 75, gd T 76, gd T 77, gd T 78, gd T 79, gd T 80, gd T 81, gd T 82, gd T 83, gd T 84, gd T 85, gd T 86, gd T 87, gd T 88, gd T 89, gd T 90, gd T 91, gd T 92, gd T 93, gd T 94, gd T 95, gd T 96, gd T 97, gd T 98, gd T 99, gd T 100, gd T 101, gd T 102, gd T 103, gd T 104, gd T 105, gd T 106, gd T 107, gd T 108, gd T 109, gd T 110, gd T 111, gd T 112, gd T 113, gd T 114, gd T 115, gd T 116, gd T 117, gd T 118, gd T 119, gd T 120, gd T 121, gd T 122, gd T 123, gd T 124, gd T 125, gd T 126] :=
 (q0u T 127 h).trans rfl
set_option maxRecDepth 100000 in
set_option maxHeartbeats 16000000 in
theorem e0e {T : Array Value} (h : T.size = 306) : T = #[gd T 0, gd T 1, gd T 2, gd T 3, gd T 4, gd T 5, gd T 6, gd T 7, gd T 8, gd T 9, gd T 10, gd T 11, gd T 12, gd T 13, gd T 14, gd T 15, gd T 16, gd T 17, gd T 18, gd T 19, gd T 20, gd T 21, gd T 22, gd T 23, gd T 24, gd T 25, gd T 26, gd T 27, gd T 28, gd T 29, gd T 30, gd T 31, gd T 32, gd T 33, gd T 34, gd T 35, gd T 36, gd T 37, gd T 38, gd T 39, gd T 40, gd T 41, gd T 42, gd T 43, gd T 44, gd T 45, gd T 46, gd T 47, gd T 48, gd T 49, gd T 50, gd T 51, gd T 52, gd T 53, gd T 54, gd T 55, gd T 56, gd T 57, gd T 58, gd T 59, gd T 60, gd T 61, gd T 62, gd T 63, gd T 64, gd T 65, gd T 66, gd T 67, gd T 68, gd T 69, gd T 70, gd T 71, gd T 72, gd T 73, gd T 74, gd T 75, gd T 76, gd T 77, gd T 78, gd T 79, gd T 80, gd T 81, gd T 82, gd T 83, gd T 84, gd T 85, gd T 86, gd T 87, gd T 88, gd T 89, gd T 90, gd T 91, gd T 92, gd T 93, gd T 94, gd T 95, gd T 96, gd T 97, gd T 98, gd T 99, gd T 100, gd T 101, gd T 102, gd T 103, gd T 104, gd T 105, gd T 106, gd T 107, gd T 108, gd T 109, gd T 110, gd T 111, gd T 112, gd T 113, gd T 114, gd T 115, gd T 116, gd T 117, gd T 118, gd T 119, gd T 120, gd T 121, gd T 122, gd T 123, gd T 124, gd T 125, gd T 126, gd T 127, gd T 128, gd T 129, gd T 130, gd T 131, gd T 132, gd T 133, gd T 134, gd T 135, gd T 136, gd T 137, gd T 138, gd T 139, gd T 140, gd T 141, gd T 142, gd T 143, gd T 144, gd T 145, gd T 146, gd T 147, gd T 148, gd T 149, gd T 150, gd T 151, gd T 152, gd T 153, gd T 154, gd T 155, gd T 156, gd T 157, gd T 158, gd T 159, gd T 160, gd T 161, gd T 162, gd T 163, gd T 164, gd T 165, gd T 166, gd T 167, gd T 168, gd T 169, gd T 170, gd T 171, gd T 172, gd T 173, gd T 174, gd T 175, gd T 176, gd T 177, gd T 178, gd T 179, gd T 180, gd T 181, gd T 182, gd T 183, gd T 184, gd T 185, gd T 186, gd T 187, gd T 188, gd T 189, gd T 190, gd T 191, gd T 192, gd T 193, gd T 194, gd T 195, gd T 196, gd T 197, gd T 198, gd T 199, gd T 200, gd T 201, gd T 202, gd T 203, gd T 204, gd T 205, gd T 206, gd T 207, gd T 208, gd T 209, gd T 210, gd T 211, gd T 212, gd T 213, gd T 214, gd T 215, gd T 216, gd T 217, gd T 218, gd T 219, gd T 220, gd T 221, gd T 222, gd T 223, gd T 224, gd T 225, gd T 226, gd T 227, gd T 228, gd T 229, gd T 230, gd T 231, gd T 232, gd T 233, gd T 234, gd T 235, gd T 236, gd T 237, gd T 238, gd T 239, gd T 240, gd T 241, gd T 242, gd T 243, gd T 244, gd T 245, gd T 246, gd T 247, gd T 248, gd T 249, gd T 250, gd T 251, gd T 252, gd T 253, gd T 254, gd T 255, gd T 256, gd T 257, gd T 258, gd T 259, gd T 260, gd T 261, gd T 262, gd T 263, gd T 264, gd T 265, gd T 266, gd T 267, gd T 268, gd T 269, gd T 270, gd T 271, gd T 272, gd T 273, gd T 274, gd T 275, gd T 276, gd T 277, gd T 278, gd T 279, gd T 280, gd T 281, gd T 282, gd T 283, gd T 284, gd T 285, gd T 286, gd T 287, gd T 288, gd T 289, gd T 290, gd T 291, gd T 292, gd T 293, gd T 294, gd T 295, gd T 296, gd T 297, gd T 298, gd T 299, gd T 300, gd T 301, gd T 302, gd T 303, gd T 304, gd T 305] :=
 (q0u T 306 h).trans rfl
theorem f0e (W : World) (a b c d e f g : Int) : (Instr.buildSlice 26 1 #[(0, .agg (Ha a b c d e f g))]).run Try.prog W = .ok (.slice (some ⟨W.heap.size, 0, none⟩) 1 1) (W.alloc (.cells (Ha a b c d e f g) 73)) := by go_simp
theorem f04 (W : World) (a b c d e : Int) (p : Option Addr) (n k : Nat) (f : Int) (q : Option Addr) (m j : Nat) (g : Int) : (Instr.buildSlice 28 1 #[(0, .agg (La a b c d e (.slice p n k) f (.slice q m j) g))]).run Try.prog W = .ok (.slice (some ⟨W.heap.size, 0, none⟩) 1 1) (W.alloc (.cells (La a b c d e (.slice p n k) f (.slice q m j) g) 80)) := by go_simp
theorem k0n {P : Program} {o : Oper} {a : Act} {w : World} {K : Act → World → Prop} {Q : Exit → Act → World → Prop} (t e : TypeId) (x : Operand) (ho : o.op = .buildSlice t 1 #[(0, x)]) (v : Value) (hx : a.eval x = v) (cells : Array Value)
 (hrun : ∀ W : World, (Instr.buildSlice t 1 #[(0, v)]).run P W = .ok (.slice (some ⟨W.heap.size, 0, none⟩) 1 1) (W.alloc (.cells cells e)))
 (h : K (a.put o.dst (.slice (some ⟨w.heap.size, 0, none⟩) 1 1)) (w.alloc (.cells cells e))) : o.wp P a w K Q := by
 unfold Oper.wp execOp
 simp only [ho, Sem.run_bind, List.map_toArray, List.map_cons, List.map_nil, hx, hrun w, Result.andThen_ok]
 exact h
def MidP (g o n c : Nat) (x a : List UInt8) (G : a0x × Int) (BP : Nat) (w w8 : World) (A : Act) (wx : World) : Prop :=
 A.defers = [] ∧ A.tmps.size = 306 ∧ A.tmps.getD 0 undef = .slice (some ⟨g, o, none⟩) n c ∧ A.tmps.getD 4 undef = .pointer (some ⟨w.heap.size, 0, none⟩) ∧ A.tmps.getD 9 undef = .pointer (some ⟨BP, 0, none⟩) ∧
 ∃ (P0 : a0x) (yl : List UInt8) (hs : Nat) (qn qk ql : Option Addr) (dn dk dl : Nat) (py : Option Addr) (ny cy : Nat), A.tmps.getD 10 undef = .slice py ny cy ∧ A.tmps.getD 11 undef = .int .i64 hs ∧ ny ≤ 900000 ∧ hs ≤ ny ∧ ny ≤ cy ∧ Hid (yl.length = ny) ∧ Hid (∀ W, a02 (fun _ => False) w W → a0a W (.slice py ny cy) yl) ∧ Hid (a06 wx BP 30 (b05 P0 (.slice qn P0.nbs.length dn) (.slice none 0 0) (.slice qk P0.keys.length dk) (.slice ql P0.lsas.length dl))) ∧ Hid (a0u wx (.slice qn P0.nbs.length dn) P0.nbs ∧ h0z wx (.slice qk P0.keys.length dk) P0.keys ∧ d0n w8.heap.size wx (.slice ql P0.lsas.length dl) P0.lsas ∧ b0s w8.heap.size qn ∧ b0s w8.heap.size qk) ∧ Hid (a02 (fun i => i = BP) w8 wx) ∧ Hid (G = f08 (b06 P0 yl hs) x) ∧ Hid (b06 P0 yl hs).ok ∧ Hid (P0.auth = a)
set_option maxRecDepth 100000 in
set_option maxHeartbeats 32000000 in
theorem m0v (g o n c : Nat) (x a : List UInt8) (G : a0x × Int) (BP : Nat) (w w8 : World) (hn' : Hid (x.length = n)) (hn24 : 24 ≤ n) (hn9 : n ≤ 900000) (hcn : n ≤ c) (hal9 : a.length ≤ 9223372036854775807) (kk : Hid (∀ W : World, a02 (fun _ => False) w W → W.rangeAt g o (x.map bv)))
 (hk8 : Hid (a02 (fun _ => False) w w8)) (hR8 : Hid (a06 w8 w.heap.size 30 Zq)) (hRB : Hid (w.heap.size < BP)) (hB8 : Hid (BP < w8.heap.size))
 (wc : World) (T : Array Value) (hm : MidP g o n c x a G BP w w8 ⟨T, []⟩ wc) :
 Code.wp Try.prog getTail (bodyPost Try.prog Try.f11 (e0x G w)) ⟨T, []⟩ wc := by
 obtain ⟨-, hT, e0, e4, e9, P0, yl, hs, qn, qk, ql, dn, dk, dl, py, ny, cy, e10, e11, hny9, hhs, hnyc, hyl, hyb, hBk0, hin0, hkx, hGx, hokx, hPa⟩ := hm
 change gd T 0 = _ at e0; change gd T 4 = _ at e4; change gd T 9 = _ at e9; change gd T 10 = _ at e10; change gd T 11 = _ at e11; change T.size = 306 at hT
 rw [e0e hT]
 rw [e0, e4, e9, e10, e11]
 conv => arg 2; whnf
 clear hT e0 e4 e9 e10 e11
 have hk8 := Hi (hk8.out.trans' hkx.out (fun i e => .inr (by rw [e]; exact Nat.le_of_lt hRB.out)))
 have hR8 := Hi (hR8.out.keep hkx.out (fun e => by have := hRB.out; omega))
 have hsz8 : Hid (w8.heap.size ≤ wc.heap.size) := Hi hkx.out.size
 obtain ⟨W3, hW3⟩ : ∃ W3, W3 = wc := ⟨_, rfl⟩
 subst hW3
 have hsz3 : Hid (w.heap.size ≤ W3.heap.size) := Hi hk8.out.size
 obtain ⟨ih, hih, hhz, hhsz, hhby⟩ := info_parts g0p
 have hini : Hid (a06 W3 BP 30 (b05 P0 (.slice qn P0.nbs.length dn) (.slice none 0 0) (.slice qk P0.keys.length dk) (.slice ql P0.lsas.length dl)) ∧ OwnR 73 7 b0q W3 W3 (.slice none 0 0) (d0j (yl.drop hs) 0) ∧ a02 (fun i => i = BP) W3 W3) := Hi ⟨hBk0.out, OwnR.nil _ _ (Nat.le_refl _), a02.refl _ _⟩
 clear hBk0 hkx
 go_wp2_with fail
 go_loopw [19] (fun iv wr => ∃ (k i : Nat) (q : Option Addr) (d : Nat), i = hs + 20 * k ∧ i ≤ ny ∧ iv = .int .i64 i ∧ Hid (a06 wr BP 30 (b05 P0 (.slice qn P0.nbs.length dn) (.slice q k d) (.slice qk P0.keys.length dk) (.slice ql P0.lsas.length dl)) ∧ OwnR 73 7 b0q W3 wr (.slice q k d) (d0j (yl.drop hs) k) ∧ a02 (fun i => i = BP) W3 wr)) (fun iv _ => ny - (intOf iv).toNat)
 case atStart => exact ⟨0, hs, none, 0, by omega, hhs, rfl, hini⟩
 case round =>
  obtain ⟨k, i, q, d, hik, hib, rfl, hinv⟩ := hrel
  by_cases hin : i + 20 ≤ ny
  ·as_aux_lemma =>
   have hini : (i : Int) + 20 ≤ ny := by omega
   obtain ⟨gy, oy, hpy, hry⟩ : ∃ gy oy, py = some ⟨gy, oy, none⟩ ∧ Hid (∀ W, a02 (fun _ => False) w W → W.rangeAt gy oy (yl.map bv)) := d0t hyb.out (by rw [hyl.out]; omega)
   subst hpy
   obtain ⟨hd1, hhd⟩ : ∃ h, a0h (sub yl i 20) = h := ⟨_, rfl⟩
   have hs20 : Hid ((sub yl i 20).length = 20) := Hi (by rw [a0k (by rw [hyl.out]; omega)])
   have hrs : Hid (d0j (yl.drop hs) (k + 1) = d0j (yl.drop hs) k ++ [hd1]) := Hi (by rw [k07, ← hhd, hik]; unfold sub; rw [List.drop_drop, n0g])
   have hrg : Hid (∀ W, a02 (fun _ => False) w W → Hid (W.rangeAt gy (oy + i) ((sub yl i 20).map bv))) := Hi (fun W k => Hi (c0e (hry.out W k) i 20))
   have hik' := Hi hik
   obtain ⟨hage, hty, hid, hadv, hseq, hsum, hlen⟩ := hd1
   have hhd'' := Hi hhd
   clear hhd hik
   have f1 : IntKind.i64.wrap ((i : Int) + 20) = (i : Int) + 20 := IntWalk.i64_in _ (by omega)
   have f2 : (i : Int) + 20 ≤ cy := by omega
   have f3 : 0 ≤ (i : Int) + 20 := by omega
   have f4 : max ((i : Int) + 20) 0 = (i : Int) + 20 := by omega
   have f5 : ((i : Int) + 20).toNat = i + 20 := by omega
   have f6 : i + 20 - i = 20 := by omega
   have f7 : (i : Int) ≤ (i : Int) + 20 := by omega
   have hicb : ¬ cy = i := by omega
   have hicc : Hid (20 ≤ cy - i) := Hi (by omega)
   go_upto_region 61 with fail
   refine wp_region_noPanic ?_
   refine wp_region_held_drew (S := (fun W => a02 (fun _ => False) w W)) (by kernel_rfl) ((hk8.out.trans' hinv.out.2.2 (fun i e => .inr (by rw [e]; exact Nat.le_of_lt hRB.out))).drew) (fun hHeld => ?_)
   refine tk 0 rfl ?_
   refine tk 2 rfl ?_
   refine tk 3 rfl ?_
   refine tk 4 rfl ?_
   refine tk 5 rfl ?_
   refine tk 6 rfl ?_
   have hBk := Hi (hinv.out.1.keep ((a02.refl (fun _ => False) wr).drew) (fun f => f))
   have hOn := Hi (hinv.out.2.1.keep ((a02.refl (fun _ => False) wr).drew) (fun _ _ f => f))
   have hKw := Hi (hinv.out.2.2.drew)
   obtain ⟨W0, hW0⟩ : ∃ W0, W0 = wr.drew := ⟨_, rfl⟩
   rw [← hW0] at hBk hOn hHeld hKw ⊢
   clear hW0 hinv f1 f2 f3 f4 f5 f6 f7 hicb
   refine c0a 1 7 rfl rfl (by kernel_rfl) (fun K hK => ?_) (fun K hK => ?_)
   focus
    have hc13 := hBk.out.cell 13 (.slice q k d) rfl
    go_simp
    refine hK.out _ _ hHeld (fun hHeld => ?_)
    clear hK K hc13
    try simp only [Act.put, sA, sZ, sS]
    refine sL 7 rfl fun K hK => ?_
    go_simp
    refine (l0s gy (oy + i) (cy - i) 20 (sub yl i 20) hage hty hseq hlen hid hadv hsum _ hs20 (Nat.le_refl 20) hicc.out (hrg.out _ hHeld) hhd'' (by omega)).mono ?_
    rintro e W0h ⟨rfl, kh⟩
    go_wp2_with fail
    refine hK.out _ _ (hHeld.trans kh) (fun hHeld => ?_)
    clear hK K
    try simp only [Act.put, sA, sZ, sS]
    have hBk := Hi (hBk.out.keep kh (fun f => f)); have hOn := Hi (hOn.out.keep kh (fun _ _ f => f)); have hKw := Hi (hKw.out.trans' kh (fun i e => e.elim))
    clear kh
    obtain ⟨W0, hWh⟩ : ∃ Wz, Wz = W0h := ⟨_, rfl⟩
    subst hWh
    refine sL 8 rfl fun K hK => ?_
    rw [if_pos (by rfl)]
    refine k0n 26 73 (.tmp 286) rfl _ rfl _ (fun W => f0e W _ _ _ _ _ _ _) ?_
    refine hK.out _ _ (hHeld.alloc _) (fun hHeld => ?_)
    clear hK K
    try simp only [Act.put, sA, sZ, sS]
    have hka : a02 (fun _ => False) W0 (W0.alloc (.cells (Ha hage hty hid hadv hseq hsum hlen) 73)) := (a02.refl _ _).alloc _
    have hnr : Hid ((W0.alloc (.cells (Ha hage hty hid hadv hseq hsum hlen) 73)).rangeAt W0.heap.size 0 (Ha' hage hty hid hadv hseq hsum hlen)) := Hi (a0o W0 _ 73)
    have hBk := Hi (hBk.out.keep hka (fun f => f)); have hOn := Hi (hOn.out.keep hka (fun _ _ f => f)); have hKw := Hi (hKw.out.alloc (.cells (Ha hage hty hid hadv hseq hsum hlen) 73))
    obtain ⟨nb, hnb⟩ : ∃ nb, nb = W0.heap.size := ⟨_, rfl⟩
    obtain ⟨W0, hWs⟩ : ∃ Wz, Wz = W0.alloc (.cells (Ha hage hty hid hadv hseq hsum hlen) 73) := ⟨_, rfl⟩
    rw [← hWs] at hBk hOn hnr hHeld hKw ⊢
    rw [← hnb] at hnr ⊢
    clear hka hnb hWs
    refine sL 9 rfl fun K hK => ?_
   rotate_left 1
   focus
    go_simp
    refine (l0s gy (oy + i) (cy - i) 20 (sub yl i 20) hage hty hseq hlen hid hadv hsum _ hs20 (Nat.le_refl 20) hicc.out (hrg.out _ hHeld) hhd'' (by omega)).mono ?_
    rintro e W0h ⟨rfl, kh⟩
    go_wp2_with fail
    refine hK.out _ _ (hHeld.trans kh) (fun hHeld => ?_)
    clear hK K
    try simp only [Act.put, sA, sZ, sS]
    have hBk := Hi (hBk.out.keep kh (fun f => f)); have hOn := Hi (hOn.out.keep kh (fun _ _ f => f)); have hKw := Hi (hKw.out.trans' kh (fun i e => e.elim))
    clear kh
    obtain ⟨W0, hWh⟩ : ∃ Wz, Wz = W0h := ⟨_, rfl⟩
    subst hWh
    refine c0a 1 8 rfl rfl (by kernel_rfl) (fun K hK => ?_) (fun K hK => ?_)
    focus
     have hc13 := hBk.out.cell 13 (.slice q k d) rfl
     go_simp
     refine hK.out _ _ hHeld (fun hHeld => ?_)
     clear hK K hc13
     try simp only [Act.put, sA, sZ, sS]
     refine sL 8 rfl fun K hK => ?_
     rw [if_pos (by rfl)]
     refine k0n 26 73 (.tmp 286) rfl _ rfl _ (fun W => f0e W _ _ _ _ _ _ _) ?_
     refine hK.out _ _ (hHeld.alloc _) (fun hHeld => ?_)
     clear hK K
     try simp only [Act.put, sA, sZ, sS]
     have hka : a02 (fun _ => False) W0 (W0.alloc (.cells (Ha hage hty hid hadv hseq hsum hlen) 73)) := (a02.refl _ _).alloc _
     have hnr : Hid ((W0.alloc (.cells (Ha hage hty hid hadv hseq hsum hlen) 73)).rangeAt W0.heap.size 0 (Ha' hage hty hid hadv hseq hsum hlen)) := Hi (a0o W0 _ 73)
     have hBk := Hi (hBk.out.keep hka (fun f => f)); have hOn := Hi (hOn.out.keep hka (fun _ _ f => f)); have hKw := Hi (hKw.out.alloc (.cells (Ha hage hty hid hadv hseq hsum hlen) 73))
     obtain ⟨nb, hnb⟩ : ∃ nb, nb = W0.heap.size := ⟨_, rfl⟩
     obtain ⟨W0, hWs⟩ : ∃ Wz, Wz = W0.alloc (.cells (Ha hage hty hid hadv hseq hsum hlen) 73) := ⟨_, rfl⟩
     rw [← hWs] at hBk hOn hnr hHeld hKw ⊢
     rw [← hnb] at hnr ⊢
     clear hka hnb hWs
     refine sL 9 rfl fun K hK => ?_
    rotate_left 1
    focus
     rw [if_pos (by rfl)]
     refine k0n 26 73 (.tmp 286) rfl _ rfl _ (fun W => f0e W _ _ _ _ _ _ _) ?_
     refine hK.out _ _ (hHeld.alloc _) (fun hHeld => ?_)
     clear hK K
     try simp only [Act.put, sA, sZ, sS]
     have hka : a02 (fun _ => False) W0 (W0.alloc (.cells (Ha hage hty hid hadv hseq hsum hlen) 73)) := (a02.refl _ _).alloc _
     have hnr : Hid ((W0.alloc (.cells (Ha hage hty hid hadv hseq hsum hlen) 73)).rangeAt W0.heap.size 0 (Ha' hage hty hid hadv hseq hsum hlen)) := Hi (a0o W0 _ 73)
     have hBk := Hi (hBk.out.keep hka (fun f => f)); have hOn := Hi (hOn.out.keep hka (fun _ _ f => f)); have hKw := Hi (hKw.out.alloc (.cells (Ha hage hty hid hadv hseq hsum hlen) 73))
     obtain ⟨nb, hnb⟩ : ∃ nb, nb = W0.heap.size := ⟨_, rfl⟩
     obtain ⟨W0, hWs⟩ : ∃ Wz, Wz = W0.alloc (.cells (Ha hage hty hid hadv hseq hsum hlen) 73) := ⟨_, rfl⟩
     rw [← hWs] at hBk hOn hnr hHeld hKw ⊢
     rw [← hnb] at hnr ⊢
     clear hka hnb hWs
     refine sL 1 rfl fun K hK => ?_
     have hc13 := hBk.out.cell 13 (.slice q k d) rfl
     go_simp
     refine hK.out _ _ hHeld (fun hHeld => ?_)
     clear hK K hc13
     try simp only [Act.put, sA, sZ, sS]
     refine sL 9 rfl fun K hK => ?_
   all_goals
    rw [if_pos (by rfl)]
    refine c0j (.tmp 280) (.tmp 287) 26 73 rfl ih (.agg (Ha 0 0 0 0 0 0 0)) 48 Try.underlying26 hih hhz hhsz hhby rfl (by decide) (by decide) b0r W3 _ k (d0j (yl.drop hs) k) (c0v _ _) rfl hOn.out ⟨nb, 0, none⟩ rfl ⟨hage, hty, hid, hadv, hseq, hsum, hlen⟩ (fun j u hu => by rw [Addr.add_mid]; exact hnr.out j u hu) (fun u hu => g07 _ u hu) (by have := hik'.out; omega) ?_
    intro q2 d2 w' hO2 hG2
    refine hK.out _ _ (hHeld.trans' hG2.k (fun i e => .inr (Nat.le_trans hsz3.out (hOn.out.2.1 i e)))) (fun hHeld => ?_)
    clear hK K
    try simp only [Act.put, sA, sZ, sS]
    have hKw := Hi (hKw.out.trans' hG2.k (fun i e => .inr (hOn.out.2.1 i e)))
    have hBk := Hi (hBk.out.keep hG2.k (fun e => hOn.out.ne_blk hBk.out (by decide) BP e rfl))
    have hc13 := hBk.out.cell 13 (.slice q k d) rfl
    have hf13 := hBk.out.frozen 13
    have hs13 : a02 (fun i => i = BP) w' (w'.setCell ⟨BP, 13, none⟩ (.slice q2 (k + 1) d2)) := (a02.refl (fun i => i = BP) w').setCell (p := ⟨BP, 13, none⟩) (.inl rfl) _
    have hO2' := Hi (hO2.keep hs13 (fun i e h => hO2.ne_blk hBk.out (by decide) i e h))
    clear hO2 hG2 hOn
    refine tk 10 rfl ?_
    refine sL 11 rfl fun K hK => ?_
    go_simp
    refine hK.out _ _ ((hHeld.setCell (p := ⟨BP, 13, none⟩) (.inr (Nat.le_of_lt hRB.out)) _)) (fun hHeld => ?_)
    clear hK K
    try simp only [Act.put, sA, sZ, sS]
    refine wpAnyH_done (by kernel_rfl) (NoPanic.normal ?_) _
    clear hc13 hf13
    have hnew : Hid (a06 (w'.setCell ⟨BP, 13, none⟩ (.slice q2 (k + 1) d2)) BP 30 (b05 P0 (.slice qn P0.nbs.length dn) (.slice q2 (k + 1) d2) (.slice qk P0.keys.length dk) (.slice ql P0.lsas.length dl)) ∧ OwnR 73 7 b0q W3 (w'.setCell ⟨BP, 13, none⟩ (.slice q2 (k + 1) d2)) (.slice q2 (k + 1) d2) (d0j (yl.drop hs) (k + 1)) ∧ a02 (fun i => i = BP) W3 (w'.setCell ⟨BP, 13, none⟩ (.slice q2 (k + 1) d2))) := Hi ⟨hBk.out.put 13 _, by rw [hrs.out]; exact hO2'.out, hKw.out.trans hs13⟩
    clear hBk hO2' hHeld hKw hs13
    go_wp2_with fail
    have hik2 := hik'.out
    exact ⟨⟨k + 1, i + 20, q2, d2, by omega, by omega, by go_num, hnew⟩, by simp [intOf]; omega⟩
  ·as_aux_lemma =>
   have hkm : (yl.length - hs) / 20 = k := by rw [hyl.out]; omega
   have hkb : k ≤ 1000000 := by omega
   obtain ⟨P1, hP1⟩ : ∃ P1, b06 P0 yl hs = P1 := ⟨_, rfl⟩
   have hP1a : P1.auth = a := by rw [← hP1]; exact hPa.out
   have hrl : P1.heads.length = k := by rw [← hP1, ← hkm]; exact c0v _ _
   obtain ⟨cs, hcs⟩ : ∃ cs, cs = (b05 P0 (.slice qn P0.nbs.length dn) (.slice q k d) (.slice qk P0.keys.length dk) (.slice ql P0.lsas.length dl)) := ⟨_, rfl⟩
   have hrB : Hid (wr.rangeAt BP 0 cs) := Hi (by rw [hcs]; exact hinv.out.1.range)
   have hcl : Hid (cs.length = 16) := Hi (by rw [hcs]; rfl)
   have hPF : Hid (b0f w8.heap.size wr (.agg cs.toArray) P1) := Hi (by
    obtain ⟨z1, z2, z3, z4, z5⟩ := hin0.out
    have hkk := hinv.out.2.2
    have hb8 := hB8.out
    rw [hcs, ← hP1, b06, hkm]
    refine b0f.mk (nn := P0.nbs.length) (nh := k) (nk := P0.keys.length) (nl := P0.lsas.length) rfl (c0v _ _) rfl rfl rfl (z1.keepF hkk (fun _ i e h => by have := z4 i _ _ e; omega)) ?_ (a0q.keepF z2 hkk (fun _ i e h => by have := z5 i _ _ e; omega)) (z3.keepF hkk (fun i h1 h => by omega)) z4 ?_ z5
    ·have h1 := hinv.out.2.1.at b0r
     have h2 := h1.len
     exact h1
    ·exact fun i n c e => Nat.le_trans hsz8.out (hinv.out.2.1.2.1 i (c0d e)))
   have hokP : Hid P1.ok := Hi (by rw [← hP1]; exact hokx.out)
   have hGq5 : Hid (G = f08 P1 x) := Hi (by rw [← hP1]; exact hGx.out)
   have hR4 := Hi (hR8.out.keep hinv.out.2.2 (fun e => by have := hRB.out; omega))
   have hw3 := Hi (hk8.out.trans' hinv.out.2.2 (fun i e => .inr (by rw [e]; exact Nat.le_of_lt hRB.out)))
   have hsz2 : Hid (w.heap.size < w8.heap.size) := Hi (by have := hRB.out; have := hB8.out; omega)
   have hini : ¬ (i : Int) + 20 ≤ ny := by omega
   have f1 : IntKind.i64.wrap ((i : Int) + 20) = (i : Int) + 20 := IntWalk.i64_in _ (by omega)
   have hal1 : P1.auth.length ≤ 9223372036854775807 := by rw [hP1a]; exact hal9
   clear hinv hcs hGx hokx hP1 hkm hrl hin0 hyb hyl hR8 hk8 hik hP1a
   obtain ⟨pn, cn, ph, ch, pk, ck, pl, cl, cs', hcc, hcs', hpin⟩ := hPF.out.packIn
   have hcc2 : cs = cs' := by injection hcc with hcc; exact List.toArray_inj hcc
   subst hcc2
   have hcs2 := Hi hcs'; have hpin' := Hi hpin
   have hci : Hid ((Try.prog.info? 30).map (·.size) = some cs.length) := Hi (by rw [a0l, hcl.out])
   obtain ⟨z, hz⟩ : ∃ z, okP P1 = z := ⟨_, rfl⟩
   have hz' := Hi hz
   clear hcc hcs' hpin hz
   go_wp2_with ((with_reducible refine a09 291 ?_); refine wpList_load_mid rfl 30 (.tmp 9) rfl BP 0 rfl cs _ hrB.out Try.underlying30 rfl hci.out ?_)
   refine (i04 P1 pn ph pk pl cn ch ck cl cs z _ hcs2 hpin' hokP hal1 hz').mono ?_
   rintro e w4 ⟨⟨hyes, hno⟩, k5⟩
   have hw4 := Hi (hw3.out.trans k5)
   have hR5 := Hi (hR4.out.keep k5 id)
   have hrB4 := Hi (k5.rangeAt hrB.out id)
   have hPF4 := Hi (hPF.out.keep k5)
   clear k5 hrB hR4 hw3
   cases z with
   | false =>
    obtain rfl := hno rfl
    have hg : Hid (G = (b0y, 3)) := Hi (by rw [hGq5.out]; unfold f08; rw [if_neg]; rintro ⟨h, _⟩; rw [hz'.out] at h; cases h)
    clear hno hyes
    go_wp2_with ((with_reducible refine a08 4 ?_); go_must (refine a05 rfl 30 (.tmp 4) (.tmp 304) rfl w.heap.size Zp rfl rfl (a06.there hR5.out 0 16 (Nat.le_refl 16)) a0l (a0s _ _ _ _ _ _ _ _ _ _ _ _ _ _ _ _ (a03 _ _ _) (a03 _ _ _) (a03 _ _ _) (a03 _ _ _)) ?_; intro w9 hr9 hs9))
    refine bodyPost_ret (v := .tuple #[.agg Zp, .int .i64 3]) (a0g Try.results11 _ _ w.heap.size Zq _ rfl hr9.out Try.underlying30 rfl a0l) rfl ⟨⟨_, by rw [hg.out], by rw [hg.out]; exact b0f.zero _ _⟩, hw4.out.trans' hs9.out (fun i e => .inr (by omega))⟩
   | true =>
   obtain ⟨pq, cq, rfl, hOq⟩ := hyes rfl
   have hlP : 0 < (putP P1).length := by rw [h0f]; omega
   obtain ⟨PX, hPX⟩ : ∃ PX, putP P1 = PX := ⟨_, rfl⟩
   rw [hPX] at hOq hlP ⊢
   have cv1 := c08 hOq.bytes hlP
   have hx0 : 0 < x.length := by rw [hn'.out]; omega
   have hbx : a0a w4 (.slice (some ⟨g, o, none⟩) n c) x := a0a.of hn'.out hcn (kk.out _ hw4.out)
   have cv2 := c08 hbx hx0
   obtain ⟨S1, hS1⟩ : ∃ S : ByteArray, S = ⟨PX.toArray⟩ := ⟨_, rfl⟩
   obtain ⟨S2, hS2⟩ : ∃ S : ByteArray, S = ⟨x.toArray⟩ := ⟨_, rfl⟩
   have heq : (S1.toList == S2.toList) = (PX == x) := by rw [Lib.toList_data, Lib.toList_data, hS1, hS2]
   rw [← hS1] at cv1
   rw [← hS2] at cv2
   clear hno hyes hOq hlP hx0 hbx hS1 hS2
   cases hq : (PX == x) with
   | false =>
    have hg : Hid (G = (b0y, 3)) := Hi (by rw [hGq5.out]; unfold f08; rw [if_neg]; rintro ⟨_, h⟩; rw [hPX] at h; rw [h] at hq; simp at hq)
    have hne : (S1.toList == S2.toList) = false := heq.trans hq
    clear heq hq hPX
    go_wp2_with ((with_reducible refine a08 4 ?_); go_must (refine a05 rfl 30 (.tmp 4) (.tmp 304) rfl w.heap.size Zp rfl rfl (a06.there hR5.out 0 16 (Nat.le_refl 16)) a0l (a0s _ _ _ _ _ _ _ _ _ _ _ _ _ _ _ _ (a03 _ _ _) (a03 _ _ _) (a03 _ _ _) (a03 _ _ _)) ?_; intro w9 hr9 hs9))
    refine bodyPost_ret (v := .tuple #[.agg Zp, .int .i64 3]) (a0g Try.results11 _ _ w.heap.size Zq _ rfl hr9.out Try.underlying30 rfl a0l) rfl ⟨⟨_, by rw [hg.out], by rw [hg.out]; exact b0f.zero _ _⟩, hw4.out.trans' hs9.out (fun i e => .inr (by omega))⟩
   | true =>
   have hg : Hid (G = (P1, 0)) := Hi (by rw [hGq5.out]; unfold f08; rw [if_pos ⟨hz'.out, by rw [hPX]; simpa using hq⟩])
   have hne : (S1.toList == S2.toList) = true := heq.trans hq
   clear heq hq hPX
   have hone : Hid (cs.toArray.all (·.oneCell') = true) := Hi (by rw [hcs2.out]; exact a0s _ _ _ _ _ _ _ _ _ _ _ _ _ _ _ _ (a03 _ _ _) (a03 _ _ _) (a03 _ _ _) (a03 _ _ _))
   go_wp2_with (first | ((with_reducible refine a09 305 ?_); go_must (refine wpList_load_mid rfl 30 (.tmp 9) rfl BP 0 rfl cs _ hrB4.out Try.underlying30 rfl hci.out ?_)) | ((with_reducible refine a08 4 ?_); go_must (refine a05 rfl 30 (.tmp 4) (.tmp 305) rfl w.heap.size cs.toArray rfl rfl (a06.there hR5.out 0 _ (by rw [List.size_toArray, hcl.out]; exact Nat.le_refl 16)) (by rw [List.size_toArray]; exact hci.out) hone.out ?_; intro w9 hr9 hs9)))
   refine bodyPost_ret (v := .tuple #[.agg cs.toArray, .int .i64 0]) (a0g Try.results11 _ _ w.heap.size cs _ rfl hr9.out Try.underlying30 rfl hci.out) rfl ⟨⟨_, by rw [hg.out], ?_⟩, hw4.out.trans' hs9.out (fun i e => .inr (by omega))⟩
   rw [hg.out]
   exact (hPF4.out.keepF hs9.out (fun i h1 e => by have := hsz2.out; omega)).older (Nat.le_of_lt hsz2.out)
set_option maxRecDepth 100000 in
set_option maxHeartbeats 32000000 in
theorem r11Get_1 (g o n c : Nat) (x a : List UInt8) (G : a0x × Int) (BP : Nat) (w w8 : World) (hn' : Hid (x.length = n)) (hn24 : 24 ≤ n) (hn9 : n ≤ 900000) (hcn : n ≤ c) (hal9 : a.length ≤ 9223372036854775807) (kk : Hid (∀ W : World, a02 (fun _ => False) w W → W.rangeAt g o (x.map bv)))
 (hk8 : Hid (a02 (fun _ => False) w w8)) (hR8 : Hid (a06 w8 w.heap.size 30 Zq)) (hRB : Hid (w.heap.size < BP)) (hB8 : Hid (BP < w8.heap.size))
 (ty rt ar : Nat) (S : ByteArray) (y : List UInt8) (P : a0x) (er : Int) (pp : Option Addr) (ny cy : Nat) (hS : Hid (S = ⟨a.toArray⟩)) (lty : ty < 256) (hny9 : ny ≤ 900000) (hnyc : ny ≤ cy) (hyl : Hid (y.length = ny)) (hxy : Hid (x.length = ny + 24)) (hyb : Hid (∀ W, a02 (fun _ => False) w W → a0a W (.slice pp ny cy) y)) (hBP : Hid (a06 w8 BP 30 (Pa' ty rt ar S 0 0 0 0 0 0 Sn 0 0 Sn Sn Sn))) (hPy : Hid (b0p (ty : Int) rt ar a y = (P, er))) (hokP : Hid P.ok) (hGg : Hid (G = if er ≠ 0 then (b0y, er) else f08 P x)) (t1 : ty = 1)
 (T : Array Value) (hT : T.size = 306) (e0 : gd T 0 = .slice (some ⟨g, o, none⟩) n c) (e4 : gd T 4 = .pointer (some ⟨w.heap.size, 0, none⟩)) (e9 : gd T 9 = .pointer (some ⟨BP, 0, none⟩)) (e10 : gd T 10 = .slice pp ny cy) (e11 : gd T 11 = .int .i64 0) (e100 : gd T 100 = .int .i64 ty) (K : Act → World → Prop) (hJ : ∀ a' w', MidP g o n c x a G BP w w8 a' w' → K a' w') :
 Code.wp Try.prog m08 (Exit.then K (bodyPost Try.prog Try.f11 (e0x G w))) ⟨T, []⟩ w8 := by
 rw [e0e hT]
 rw [e0, e4, e9, e10, e11, e100]
 conv => arg 2; whnf
 clear hT e0 e4 e9 e10 e11 e100
 have hkx0 : Hid (a02 (fun i => i = BP) w8 w8) := Hi (a02.refl _ _)
 obtain ⟨py, hpy⟩ : ∃ q, q = pp := ⟨_, rfl⟩
 subst hpy
 have d1 : ((ty : Int) == 1) = true := by rw [t1]; rfl
 by_cases h20 : ny < 20
 ·have hg : Hid (G = (b0y, 3)) := Hi (by
   have e := hPy.out
   rw [t1, show ((1 : Nat) : Int) = 1 from rfl, hear_s1 rt ar a y (by rw [hyl.out]; exact h20)] at e
   injection e with e1 e2
   rw [hGg.out, ← e2, if_neg (by simp), ← e1]; exact last_s1 _ _ _ _)
  have i20 : (ny : Int) < 20 := by omega
  go_wp2_with ((with_reducible refine a08 4 ?_); go_must (refine a05 rfl 30 (.tmp 4) (.tmp 106) rfl w.heap.size Zp rfl rfl (a06.there hR8.out 0 16 (Nat.le_refl 16)) a0l (a0s _ _ _ _ _ _ _ _ _ _ _ _ _ _ _ _ (a03 _ _ _) (a03 _ _ _) (a03 _ _ _) (a03 _ _ _)) ?_; intro w9 hr9 hs9))
  refine bodyPost_ret (v := .tuple #[.agg Zp, .int .i64 3]) (a0g Try.results11 _ _ w.heap.size Zq _ rfl hr9.out Try.underlying30 rfl a0l) rfl ⟨⟨_, by rw [hg.out], by rw [hg.out]; exact b0f.zero _ _⟩, hk8.out.trans' hs9.out (fun i e => .inr (by omega))⟩
 ·have i20 : ¬ (ny : Int) < 20 := by omega
  obtain ⟨gy, oy, hpy, hry⟩ := d0t hyb.out (by rw [hyl.out]; omega)
  subst hpy
  have hyl' := hyl.out
  obtain ⟨gM, hgM⟩ : ∃ m, a0d (sub y 0 4) = m := ⟨_, rfl⟩
  obtain ⟨gI, hgI⟩ : ∃ m, a0d (sub y 4 2) = m := ⟨_, rfl⟩
  obtain ⟨gD, hgD⟩ : ∃ m, a0d (sub y 8 4) = m := ⟨_, rfl⟩
  obtain ⟨gP, hgP⟩ : ∃ m, (y.getD 7 0).toNat = m := ⟨_, rfl⟩
  obtain ⟨gR, hgR⟩ : ∃ m, a0d (sub y 12 4) = m := ⟨_, rfl⟩
  obtain ⟨gB, hgB⟩ : ∃ m, a0d (sub y 16 4) = m := ⟨_, rfl⟩
  have lM : gM < 4294967296 := by rw [← hgM]; exact b0c y 0 4 (by omega)
  have lR : gR < 4294967296 := by rw [← hgR]; exact b0c y 12 4 (by omega)
  have lB : gB < 4294967296 := by rw [← hgB]; exact b0c y 16 4 (by omega)
  have lP : gP < 256 := by rw [← hgP]; exact UInt8.toNat_lt _
  have sM : (sub y 0 4).length ≤ 4 := by rw [a0k (by omega)]; omega
  have sI : (sub y 4 2).length ≤ 4 := by rw [a0k (by omega)]; omega
  have sD : (sub y 8 4).length ≤ 4 := by rw [a0k (by omega)]; omega
  have sR : (sub y 12 4).length ≤ 4 := by rw [a0k (by omega)]; omega
  have sB : (sub y 16 4).length ≤ 4 := by rw [a0k (by omega)]; omega
  have yM : Hid (∀ W, a02 (fun _ => False) w W → Hid (a0a W (.slice (some ⟨gy, oy, none⟩) 4 cy) (sub y 0 4))) := Hi (fun W k => Hi (by have := a0c (hry.out W k) (by omega : y.length ≤ cy) 0 4 (by omega); rwa [Nat.add_zero, Nat.sub_zero] at this))
  have yI : Hid (∀ W, a02 (fun _ => False) w W → Hid (a0a W (.slice (some ⟨gy, oy + 4, none⟩) 2 (cy - 4)) (sub y 4 2))) := Hi (fun W k => Hi (a0c (hry.out W k) (by omega) 4 2 (by omega)))
  have yD : Hid (∀ W, a02 (fun _ => False) w W → Hid (a0a W (.slice (some ⟨gy, oy + 8, none⟩) 4 (cy - 8)) (sub y 8 4))) := Hi (fun W k => Hi (a0c (hry.out W k) (by omega) 8 4 (by omega)))
  have yR : Hid (∀ W, a02 (fun _ => False) w W → Hid (a0a W (.slice (some ⟨gy, oy + 12, none⟩) 4 (cy - 12)) (sub y 12 4))) := Hi (fun W k => Hi (a0c (hry.out W k) (by omega) 12 4 (by omega)))
  have yB : Hid (∀ W, a02 (fun _ => False) w W → Hid (a0a W (.slice (some ⟨gy, oy + 16, none⟩) 4 (cy - 16)) (sub y 16 4))) := Hi (fun W k => Hi (a0c (hry.out W k) (by omega) 16 4 (by omega)))
  have hc7 : Hid (∀ W, a02 (fun _ => False) w W → W.cell? ⟨gy, oy + 7, none⟩ = some (.int .u8 gP)) := Hi (fun W k => by
   have := a0i (hry.out W k) 7 (by omega)
   rw [this, ← hgP, List.getD_eq_getElem?_getD, List.getElem?_eq_getElem (by omega)]; rfl)
  have hgM' := Hi hgM; have hgI' := Hi hgI; have hgD' := Hi hgD; have hgR' := Hi hgR; have hgB' := Hi hgB; have hgP' := Hi hgP
  have hgl : Hid (P = ⟨1, rt, ar, a, gM, (gI : Nat), (gD : Nat), (gP : Nat), gR, gB, c09 (y.drop 20) ((y.length - 20) / 4), 0, 0, [], [], []⟩ ∧ er = 0) := Hi (by
   have e := hPy.out
   rw [t1, show ((1 : Nat) : Int) = 1 from rfl, hear_1 rt ar a y (by omega), hgM, hgI, hgD, hgP, hgR, hgB] at e
   injection e with e1 e2
   refine ⟨?_, e2.symm⟩
   rw [← e1]; unfold b06; simp [f0s])
  clear hgM hgI hgD hgR hgB hgP
  have wM : IntKind.u32.wrap (gM : Int) = (gM : Int) := by rw [c01]; omega
  have wR : IntKind.u32.wrap (gR : Int) = (gR : Int) := by rw [c01]; omega
  have wB : IntKind.u32.wrap (gB : Int) = (gB : Int) := by rw [c01]; omega
  have wP : IntKind.i64.wrap (gP : Int) = (gP : Int) := IntWalk.i64_in _ (by omega)
  have q4 : (4 : Int) ≤ cy := by omega
  have q6 : (6 : Int) ≤ cy := by omega
  have q12 : (12 : Int) ≤ cy := by omega
  have q16 : (16 : Int) ≤ cy := by omega
  have q20 : (20 : Int) ≤ cy := by omega
  have q7 : (7 : Int) < ny := by omega
  have n4 : ¬ cy = 4 := by omega
  have n8 : ¬ cy = 8 := by omega
  have n12 : ¬ cy = 12 := by omega
  have n16 : ¬ cy = 16 := by omega
  clear hyl'
  go_upto_region 23 with fail
  refine wp_region_noPanic ?_
  refine wp_region_held_drew (S := (fun W => a02 (fun _ => False) w W)) (by kernel_rfl) (hk8.out.drew) (fun hHeld => ?_)
  obtain ⟨W0, hW0⟩ : ∃ W0, W0 = w8.drew := ⟨_, rfl⟩
  have hB0 : a06 W0 BP 30 (Pa' ty rt ar S 0 0 0 0 0 0 Sn 0 0 Sn Sn Sn) := by rw [hW0]; exact hBP.out.keep ((a02.refl (fun _ => False) w8).drew) id
  have hxW : Hid (a02 (fun i => i = BP) w8 W0) := Hi (by rw [hW0]; exact (a02.refl _ _).drew)
  rw [← hW0] at hHeld ⊢
  have hT := hB0.there 4 7 (Nat.le_of_ble_eq_true rfl)
  have hB0' := Hi hB0
  clear hB0 hW0
  refine tk 0 rfl ?_
  refine tk 1 rfl ?_
  refine tk 4 rfl ?_
  refine tk 5 rfl ?_
  refine tk 7 rfl ?_
  refine tk 8 rfl ?_
  refine tkL 9 rfl (a04 (by rfl) 5 (.tmp 115) rfl gy (oy + 7) rfl _ (fun _ s => hc7.out _ s) (fun w s => g05 w _ _ _ s)) ?_
  refine tk 10 rfl ?_
  refine tk 11 rfl ?_
  refine tk 12 rfl ?_
  refine tk 14 rfl ?_
  refine tk 15 rfl ?_
  refine tk 18 rfl ?_
  refine tk 19 rfl ?_
  refine sL 2 rfl fun K hK => ?_
  go_simp
  (refine (a0y _ _ gM sM _ (yM.out _ hHeld) hgM').mono ?_; rintro e w' ⟨rfl, rfl⟩)
  go_wp2_with fail
  refine hK.out _ _ (hHeld) (fun hHeld => ?_)
  clear hK K
  try simp only [Act.put, sA, sZ, sS]
  refine tk 3 rfl ?_
  refine sL 6 rfl fun K hK => ?_
  go_simp
  (refine (a0y _ _ gI sI _ (yI.out _ hHeld) hgI').mono ?_; rintro e w' ⟨rfl, rfl⟩)
  go_wp2_with fail
  refine hK.out _ _ (hHeld) (fun hHeld => ?_)
  clear hK K
  try simp only [Act.put, sA, sZ, sS]
  refine sL 13 rfl fun K hK => ?_
  go_simp
  (refine (a0y _ _ gD sD _ (yD.out _ hHeld) hgD').mono ?_; rintro e w' ⟨rfl, rfl⟩)
  go_wp2_with fail
  refine hK.out _ _ (hHeld) (fun hHeld => ?_)
  clear hK K
  try simp only [Act.put, sA, sZ, sS]
  refine sL 16 rfl fun K hK => ?_
  go_simp
  (refine (a0y _ _ gR sR _ (yR.out _ hHeld) hgR').mono ?_; rintro e w' ⟨rfl, rfl⟩)
  go_wp2_with fail
  refine hK.out _ _ (hHeld) (fun hHeld => ?_)
  clear hK K
  try simp only [Act.put, sA, sZ, sS]
  refine tk 17 rfl ?_
  refine sL 20 rfl fun K hK => ?_
  go_simp
  (refine (a0y _ _ gB sB _ (yB.out _ hHeld) hgB').mono ?_; rintro e w' ⟨rfl, rfl⟩)
  go_wp2_with fail
  refine hK.out _ _ (hHeld) (fun hHeld => ?_)
  clear hK K
  try simp only [Act.put, sA, sZ, sS]
  refine tk 21 rfl ?_
  refine tk 22 rfl ?_
  refine tk 23 rfl ?_
  refine sL 24 rfl fun K hK => ?_
  rw [if_pos (by rfl)]
  (refine wp_store_mid 25 (.tmp 130) (.tmp 129) rfl BP 4 (Ga (gM : Nat) (gI : Nat) (gD : Nat) (gP : Nat) (gR : Nat) (gB : Nat) Sn) rfl rfl hT b01 (h0q _ _ _ _ _ _ _ (a03 _ _ _)) ?_)
  refine hK.out _ _ ((hHeld.trans' (a02.setCells (F := fun i => i = BP) (.inl rfl) _ _ _ (a02.refl _ _)) (fun i e => .inr (by rw [e]; exact Nat.le_of_lt hRB.out)))) (fun hHeld => ?_)
  clear hK K
  try simp only [Act.put, sA, sZ, sS]
  refine wpAnyH_done (by kernel_rfl) (NoPanic.normal ?_) _
  have hB1 : Hid (a06 (W0.setCells BP 4 (Ga' (gM : Nat) (gI : Nat) (gD : Nat) (gP : Nat) (gR : Nat) (gB : Nat) Sn)) BP 30 (Pa' ty rt ar S (gM : Nat) (gI : Nat) (gD : Nat) (gP : Nat) (gR : Nat) (gB : Nat) Sn 0 0 Sn Sn Sn)) := Hi (hB0'.out.sets (Ga' (gM : Nat) (gI : Nat) (gD : Nat) (gP : Nat) (gR : Nat) (gB : Nat) Sn) 4)
  have hx1 : Hid (a02 (fun i => i = BP) w8 (W0.setCells BP 4 (Ga' (gM : Nat) (gI : Nat) (gD : Nat) (gP : Nat) (gR : Nat) (gB : Nat) Sn))) := Hi (hxW.out.trans (a02.setCells (F := fun i => i = BP) (.inl rfl) _ _ _ (a02.refl _ _)))
  have hk3 := Hi hHeld
  have hR3 := Hi (hR8.out.keep hx1.out (fun e => by have := hRB.out; omega))
  obtain ⟨W3, hW3⟩ : ∃ W3, W3 = W0.setCells BP 4 (Ga' (gM : Nat) (gI : Nat) (gD : Nat) (gP : Nat) (gR : Nat) (gB : Nat) Sn) := ⟨_, rfl⟩
  have hW3' := Hi hW3
  change Exit.then _ _ _ _ (W0.setCells BP 4 (Ga' (gM : Nat) (gI : Nat) (gD : Nat) (gP : Nat) (gR : Nat) (gB : Nat) Sn))
  rw [← hW3] at hB1 hx1 hk3 hR3 ⊢
  have hsz3 : Hid (w.heap.size ≤ W3.heap.size) := Hi hk3.out.size
  have hinit : Hid (a06 W3 BP 30 (Pa' ty rt ar S (gM : Nat) (gI : Nat) (gD : Nat) (gP : Nat) (gR : Nat) (gB : Nat) Sn 0 0 Sn Sn Sn) ∧ OwnN W3 W3 (.slice none 0 0) (c09 (y.drop 20) 0) ∧ a02 (fun i => i = BP) W3 W3) := Hi ⟨hB1.out, OwnN.nil _ _ (Nat.le_refl _), a02.refl _ _⟩
  obtain ⟨iu, hiu, hz0, hz1, hz2⟩ := info_parts f02
  clear hHeld hT hW3 hW3' hB1 hB0' hxW yM yI yD yR yB hc7 hBP hR8 hk8 q4 q6 q12 q16 q20 q7 n4 n8 n12 n16 wM wR wB wP sM sI sD sR sB
  go_wp2_with fail
  go_loopw [12] (fun iv wr => ∃ (k i : Nat) (q : Option Addr) (d : Nat), i = 20 + 4 * k ∧ i ≤ ny ∧ iv = .int .i64 i ∧ Hid (a06 wr BP 30 (Pa' ty rt ar S (gM : Nat) (gI : Nat) (gD : Nat) (gP : Nat) (gR : Nat) (gB : Nat) (.slice q k d) 0 0 Sn Sn Sn) ∧ OwnN W3 wr (.slice q k d) (c09 (y.drop 20) k) ∧ a02 (fun i => i = BP) W3 wr)) (fun iv _ => ny - (intOf iv).toNat)
  case atStart => exact ⟨0, 20, none, 0, rfl, by omega, rfl, hinit⟩
  case round =>
   obtain ⟨k, i, q, d, hik, hib, rfl, hinv⟩ := hrel
   by_cases hin : i + 4 ≤ ny
   ·as_aux_lemma =>
    have hini : (i : Int) + 4 ≤ ny := by omega
    obtain ⟨n4, hn4⟩ : ∃ n, a0d (sub y i 4) = n := ⟨_, rfl⟩
    have hn0 := b0c y i 4 (by omega)
    rw [hn4] at hn0
    have hn4' := Hi hn4
    have hrs : Hid (c09 (y.drop 20) (k + 1) = c09 (y.drop 20) k ++ [n4]) := Hi (by rw [i02, ← hn4, hik]; unfold sub; rw [List.drop_drop])
    have hik' := Hi hik
    have si : (sub y i 4).length ≤ 4 := by rw [a0k (by rw [hyl.out]; omega)]; omega
    have yi : Hid (∀ W, a02 (fun _ => False) w W → Hid (a0a W (.slice (some ⟨gy, oy + i, none⟩) 4 (cy - i)) (sub y i 4))) := Hi (fun W k => Hi (a0c (hry.out W k) (by rw [hyl.out]; omega) i 4 (by rw [hyl.out]; omega)))
    clear hn4 hik
    have f1 : IntKind.i64.wrap ((i : Int) + 4) = (i : Int) + 4 := IntWalk.i64_in _ (by omega)
    have f2 : (i : Int) + 4 ≤ cy := by omega
    have f3 : 0 ≤ (i : Int) + 4 := by omega
    have f4 : max ((i : Int) + 4) 0 = (i : Int) + 4 := by omega
    have f5 : ((i : Int) + 4).toNat = i + 4 := by omega
    have f6 : i + 4 - i = 4 := by omega
    have f7 : (i : Int) ≤ (i : Int) + 4 := by omega
    have wn : IntKind.u32.wrap (n4 : Int) = (n4 : Int) := by rw [c01]; omega
    have hicb : ¬ cy = i := by omega
    go_upto_region 27 with fail
    refine wp_region_noPanic ?_
    refine wp_region_held_drew (S := (fun W => a02 (fun _ => False) w W)) (by kernel_rfl) ((hk3.out.trans' hinv.out.2.2 (fun i e => .inr (by rw [e]; exact Nat.le_of_lt hRB.out))).drew) (fun hHeld => ?_)
    refine tk 0 rfl ?_
    refine tk 1 rfl ?_
    refine tk 3 rfl ?_
    refine tk 4 rfl ?_
    refine tk 5 rfl ?_
    refine tk 6 rfl ?_
    refine tk 7 rfl ?_
    have hBk := Hi (hinv.out.1.keep ((a02.refl (fun _ => False) wr).drew) (fun f => f))
    have hOn := Hi (hinv.out.2.1.keep ((a02.refl (fun _ => False) wr).drew) (fun _ _ f => f))
    have hKw := Hi (hinv.out.2.2.drew)
    obtain ⟨W0, hW0⟩ : ∃ W0, W0 = wr.drew := ⟨_, rfl⟩
    rw [← hW0] at hBk hOn hHeld hKw ⊢
    clear hW0 hinv
    refine c0a 2 8 rfl rfl (by kernel_rfl) (fun K hK => ?_) (fun K hK => ?_)
    focus
     have hcF := hBk.out.cell 10 (.slice q k d) rfl
     go_simp
     refine hK.out _ _ hHeld (fun hHeld => ?_)
     clear hK K hcF
     try simp only [Act.put, sA, sZ, sS]
     refine sL 8 rfl fun K hK => ?_
     go_simp
     refine (a0y _ _ n4 si _ (yi.out _ hHeld) hn4').mono ?_
     rintro e Wa ⟨rfl, rfl⟩
     go_wp2_with fail
     refine hK.out _ _ hHeld (fun hHeld => ?_)
     clear hK K
     try simp only [Act.put, sA, sZ, sS]
     refine tk 9 rfl ?_
     refine sL 10 rfl fun K hK => ?_
     go_simp
     refine hK.out _ _ (hHeld.alloc _) (fun hHeld => ?_)
     clear hK K
     try simp only [Act.put, sA, sZ, sS]
     have hka : a02 (fun _ => False) W0 (W0.alloc (.cells #[.int .u32 (n4 : Nat)] 22)) := (a02.refl _ _).alloc _
     have hnr : Hid ((W0.alloc (.cells #[.int .u32 (n4 : Nat)] 22)).rangeAt W0.heap.size 0 [.int .u32 (n4 : Nat)]) := Hi (a0o W0 _ 22)
     have hBk := Hi (hBk.out.keep hka (fun f => f)); have hOn := Hi (hOn.out.keep hka (fun _ _ f => f)); have hKw := Hi (hKw.out.alloc (.cells #[.int .u32 (n4 : Nat)] 22))
     obtain ⟨nb, hnb⟩ : ∃ nb, nb = W0.heap.size := ⟨_, rfl⟩
     obtain ⟨W0, hWs⟩ : ∃ Wz, Wz = W0.alloc (.cells #[.int .u32 (n4 : Nat)] 22) := ⟨_, rfl⟩
     rw [← hWs] at hBk hOn hnr hHeld hKw  ⊢
     rw [← hnb] at hnr ⊢
     clear hka hnb hWs
     refine sL 11 rfl fun K hK => ?_
    rotate_left 1
    focus
     go_simp
     refine (a0y _ _ n4 si _ (yi.out _ hHeld) hn4').mono ?_
     rintro e Wa ⟨rfl, rfl⟩
     go_wp2_with fail
     refine hK.out _ _ hHeld (fun hHeld => ?_)
     clear hK K
     try simp only [Act.put, sA, sZ, sS]
     refine tk 9 rfl ?_
     refine c0a 2 10 rfl rfl (by kernel_rfl) (fun K hK => ?_) (fun K hK => ?_)
     focus
      have hcF := hBk.out.cell 10 (.slice q k d) rfl
      go_simp
      refine hK.out _ _ hHeld (fun hHeld => ?_)
      clear hK K hcF
      try simp only [Act.put, sA, sZ, sS]
      refine sL 10 rfl fun K hK => ?_
      go_simp
      refine hK.out _ _ (hHeld.alloc _) (fun hHeld => ?_)
      clear hK K
      try simp only [Act.put, sA, sZ, sS]
      have hka : a02 (fun _ => False) W0 (W0.alloc (.cells #[.int .u32 (n4 : Nat)] 22)) := (a02.refl _ _).alloc _
      have hnr : Hid ((W0.alloc (.cells #[.int .u32 (n4 : Nat)] 22)).rangeAt W0.heap.size 0 [.int .u32 (n4 : Nat)]) := Hi (a0o W0 _ 22)
      have hBk := Hi (hBk.out.keep hka (fun f => f)); have hOn := Hi (hOn.out.keep hka (fun _ _ f => f)); have hKw := Hi (hKw.out.alloc (.cells #[.int .u32 (n4 : Nat)] 22))
      obtain ⟨nb, hnb⟩ : ∃ nb, nb = W0.heap.size := ⟨_, rfl⟩
      obtain ⟨W0, hWs⟩ : ∃ Wz, Wz = W0.alloc (.cells #[.int .u32 (n4 : Nat)] 22) := ⟨_, rfl⟩
      rw [← hWs] at hBk hOn hnr hHeld hKw  ⊢
      rw [← hnb] at hnr ⊢
      clear hka hnb hWs
      refine sL 11 rfl fun K hK => ?_
     rotate_left 1
     focus
      go_simp
      refine hK.out _ _ (hHeld.alloc _) (fun hHeld => ?_)
      clear hK K
      try simp only [Act.put, sA, sZ, sS]
      have hka : a02 (fun _ => False) W0 (W0.alloc (.cells #[.int .u32 (n4 : Nat)] 22)) := (a02.refl _ _).alloc _
      have hnr : Hid ((W0.alloc (.cells #[.int .u32 (n4 : Nat)] 22)).rangeAt W0.heap.size 0 [.int .u32 (n4 : Nat)]) := Hi (a0o W0 _ 22)
      have hBk := Hi (hBk.out.keep hka (fun f => f)); have hOn := Hi (hOn.out.keep hka (fun _ _ f => f)); have hKw := Hi (hKw.out.alloc (.cells #[.int .u32 (n4 : Nat)] 22))
      obtain ⟨nb, hnb⟩ : ∃ nb, nb = W0.heap.size := ⟨_, rfl⟩
      obtain ⟨W0, hWs⟩ : ∃ Wz, Wz = W0.alloc (.cells #[.int .u32 (n4 : Nat)] 22) := ⟨_, rfl⟩
      rw [← hWs] at hBk hOn hnr hHeld hKw  ⊢
      rw [← hnb] at hnr ⊢
      clear hka hnb hWs
      refine sL 2 rfl fun K hK => ?_
      have hcF := hBk.out.cell 10 (.slice q k d) rfl
      go_simp
      refine hK.out _ _ hHeld (fun hHeld => ?_)
      clear hK K hcF
      try simp only [Act.put, sA, sZ, sS]
      refine sL 11 rfl fun K hK => ?_
    all_goals
     rw [if_pos (by rfl)]
     refine f0c (.tmp 140) (.tmp 148) 23 rfl iu Try.underlying23 hiu hz0 hz1 hz2 W3 _ k (c09 (y.drop 20) k) (c06 _ _) rfl hOn.out ⟨nb, 0, none⟩ 1 [n4] rfl (fun j u hu => by rw [Addr.add_mid]; exact hnr.out j u hu) (by have := hik'.out; rw [List.length_singleton]; omega) ?_
     intro q2 d2 w' hO2 hG2
     rw [List.length_singleton] at hO2 hG2 ⊢
     refine hK.out _ _ (hHeld.trans' hG2.k (fun i e => .inr (Nat.le_trans hsz3.out (hOn.out.2.1 i e)))) (fun hHeld => ?_)
     clear hK K
     try simp only [Act.put, sA, sZ, sS]
     have hKw := Hi (hKw.out.trans' hG2.k (fun i e => .inr (hOn.out.2.1 i e)))
     have hBk := Hi (hBk.out.keep hG2.k (fun e => hOn.out.ne_blkP hBk.out BP e rfl))
     have hcF := hBk.out.cell 10 (.slice q k d) rfl
     have hfF := hBk.out.frozen 10
     have hsF : a02 (fun i => i = BP) w' (w'.setCell ⟨BP, 10, none⟩ (.slice q2 (k + 1) d2)) := (a02.refl (fun i => i = BP) w').setCell (p := ⟨BP, 10, none⟩) (.inl rfl) _
     have hO2' := Hi (hO2.keep hsF (fun i e h => hO2.ne_blkP hBk.out i e h))
     clear hO2 hG2 hOn
     refine tk 12 rfl ?_
     refine tk 13 rfl ?_
     refine sL 14 rfl fun K hK => ?_
     go_simp
     refine hK.out _ _ ((hHeld.setCell (p := ⟨BP, 10, none⟩) (.inr (Nat.le_of_lt hRB.out)) _)) (fun hHeld => ?_)
     clear hK K
     try simp only [Act.put, sA, sZ, sS]
     refine wpAnyH_done (by kernel_rfl) (NoPanic.normal ?_) _
     clear hcF hfF
     have hnew : Hid (a06 (w'.setCell ⟨BP, 10, none⟩ (.slice q2 (k + 1) d2)) BP 30 (Pa' ty rt ar S (gM : Nat) (gI : Nat) (gD : Nat) (gP : Nat) (gR : Nat) (gB : Nat) (.slice q2 (k + 1) d2) 0 0 Sn Sn Sn) ∧ OwnN W3 (w'.setCell ⟨BP, 10, none⟩ (.slice q2 (k + 1) d2)) (.slice q2 (k + 1) d2) (c09 (y.drop 20) (k + 1)) ∧ a02 (fun i => i = BP) W3 (w'.setCell ⟨BP, 10, none⟩ (.slice q2 (k + 1) d2))) := Hi ⟨hBk.out.put 10 _, by rw [hrs.out]; exact hO2'.out, hKw.out.trans hsF⟩
     clear hBk hO2' hHeld hKw hsF
     go_wp2_with fail
     have hik2 := hik'.out
     exact ⟨⟨k + 1, i + 4, q2, d2, by omega, by omega, by go_num, hnew⟩, by simp [intOf]; omega⟩
   ·as_aux_lemma =>
    have hkm : (y.length - 20) / 4 = k := by rw [hyl.out]; omega
    have hkb : k ≤ 1000000 := by omega
    obtain ⟨rs, hrs⟩ : ∃ rs, c09 (y.drop 20) k = rs := ⟨_, rfl⟩
    have hrl : rs.length = k := by rw [← hrs, c06]
    have hfin : Hid (P = b06 ⟨1, rt, ar, a, gM, (gI : Nat), (gD : Nat), (gP : Nat), gR, gB, rs, 0, 0, [], [], []⟩ y ny ∧ er = 0) := Hi (by
     refine ⟨?_, hgl.out.2⟩
     rw [hgl.out.1, hkm, hrs]; unfold b06; rw [hyl.out]; simp [f0s])
    rw [hrs] at hinv
    clear hgl hrs hkm
    subst hrl
    have hinv' := hinv
    have hini : ¬ (i : Int) + 4 ≤ ny := by omega
    have f1 : IntKind.i64.wrap ((i : Int) + 4) = (i : Int) + 4 := IntWalk.i64_in _ (by omega)
    clear hinv hik hin
    have hkx1 := Hi (hx1.out.trans hinv'.out.2.2)
    have hsx : Hid (w8.heap.size ≤ W3.heap.size) := Hi hx1.out.size
    go_wp2_with fail
    first | refine hJ _ _ ?_ | skip
    unfold MidP
    refine ⟨rfl, rfl, rfl, rfl, rfl, ⟨1, rt, ar, a, gM, (gI : Nat), (gD : Nat), (gP : Nat), gR, gB, rs, 0, 0, [], [], []⟩, y, ny, q, none, none, d, 0, 0, (some ⟨gy, oy, none⟩), ny, cy, rfl, rfl, by omega, (Nat.le_refl _), by omega, hyl, hyb, Hi ?_, Hi ?_, hkx1, Hi ?_, Hi ?_, Hi rfl⟩
    ·have h1 := hinv'.out.1
     rw [t1, hS.out] at h1
     exact h1
    ·exact ⟨hinv'.out.2.1.at, c0s _, d0n.nil _ _, fun i n c e => Nat.le_trans hsx.out (hinv'.out.2.1.2.1 i (c0d e)), b0s.nil _⟩
    ·rw [hGg.out, hfin.out.2, if_neg (by simp), ← hfin.out.1]
    ·rw [← hfin.out.1]; exact hokP.out
set_option maxRecDepth 100000 in
set_option maxHeartbeats 32000000 in
theorem r11Get_2 (g o n c : Nat) (x a : List UInt8) (G : a0x × Int) (BP : Nat) (w w8 : World) (hn' : Hid (x.length = n)) (hn24 : 24 ≤ n) (hn9 : n ≤ 900000) (hcn : n ≤ c) (hal9 : a.length ≤ 9223372036854775807) (kk : Hid (∀ W : World, a02 (fun _ => False) w W → W.rangeAt g o (x.map bv)))
 (hk8 : Hid (a02 (fun _ => False) w w8)) (hR8 : Hid (a06 w8 w.heap.size 30 Zq)) (hRB : Hid (w.heap.size < BP)) (hB8 : Hid (BP < w8.heap.size))
 (ty rt ar : Nat) (S : ByteArray) (y : List UInt8) (P : a0x) (er : Int) (pp : Option Addr) (ny cy : Nat) (hS : Hid (S = ⟨a.toArray⟩)) (lty : ty < 256) (hny9 : ny ≤ 900000) (hnyc : ny ≤ cy) (hyl : Hid (y.length = ny)) (hxy : Hid (x.length = ny + 24)) (hyb : Hid (∀ W, a02 (fun _ => False) w W → a0a W (.slice pp ny cy) y)) (hBP : Hid (a06 w8 BP 30 (Pa' ty rt ar S 0 0 0 0 0 0 Sn 0 0 Sn Sn Sn))) (hPy : Hid (b0p (ty : Int) rt ar a y = (P, er))) (hokP : Hid P.ok) (hGg : Hid (G = if er ≠ 0 then (b0y, er) else f08 P x)) (t2 : ty = 2)
 (T : Array Value) (hT : T.size = 306) (e0 : gd T 0 = .slice (some ⟨g, o, none⟩) n c) (e4 : gd T 4 = .pointer (some ⟨w.heap.size, 0, none⟩)) (e9 : gd T 9 = .pointer (some ⟨BP, 0, none⟩)) (e10 : gd T 10 = .slice pp ny cy) (e11 : gd T 11 = .int .i64 0) (e100 : gd T 100 = .int .i64 ty) (K : Act → World → Prop) (hJ : ∀ a' w', MidP g o n c x a G BP w w8 a' w' → K a' w') :
 Code.wp Try.prog m08 (Exit.then K (bodyPost Try.prog Try.f11 (e0x G w))) ⟨T, []⟩ w8 := by
 rw [e0e hT]
 rw [e0, e4, e9, e10, e11, e100]
 conv => arg 2; whnf
 clear hT e0 e4 e9 e10 e11 e100
 have hkx0 : Hid (a02 (fun i => i = BP) w8 w8) := Hi (a02.refl _ _)
 obtain ⟨py, hpy⟩ : ∃ q, q = pp := ⟨_, rfl⟩
 subst hpy
 have d1 : ((ty : Int) == 1) = false := by rw [beq_eq_false_iff_ne]; omega
 have d2 : ((ty : Int) == 2) = true := by rw [t2]; rfl
 by_cases h8 : ny < 8
 ·have hg : Hid (G = (b0y, 3)) := Hi (by
   have e := hPy.out
   rw [t2, show ((2 : Nat) : Int) = 2 from rfl, hear_s2 rt ar a y (by rw [hyl.out]; exact h8)] at e
   injection e with e1 e2
   rw [hGg.out, ← e2, if_neg (by simp), ← e1]; exact last_s2 _ _ _ _ (by rw [hxy.out]; omega))
  have i8 : (ny : Int) < 8 := by omega
  go_wp2_with ((with_reducible refine a08 4 ?_); go_must (refine a05 rfl 30 (.tmp 4) (.tmp 159) rfl w.heap.size Zp rfl rfl (a06.there hR8.out 0 16 (Nat.le_refl 16)) a0l (a0s _ _ _ _ _ _ _ _ _ _ _ _ _ _ _ _ (a03 _ _ _) (a03 _ _ _) (a03 _ _ _) (a03 _ _ _)) ?_; intro w9 hr9 hs9))
  refine bodyPost_ret (v := .tuple #[.agg Zp, .int .i64 3]) (a0g Try.results11 _ _ w.heap.size Zq _ rfl hr9.out Try.underlying30 rfl a0l) rfl ⟨⟨_, by rw [hg.out], by rw [hg.out]; exact b0f.zero _ _⟩, hk8.out.trans' hs9.out (fun i e => .inr (by omega))⟩
 ·have i8 : ¬ (ny : Int) < 8 := by omega
  obtain ⟨gy, oy, hpy, hry⟩ := d0t hyb.out (by rw [hyl.out]; omega)
  subst hpy
  have hyl' := hyl.out
  obtain ⟨fl, hfl⟩ : ∃ m, (y.getD 3 0).toNat = m := ⟨_, rfl⟩
  obtain ⟨sq, hsq⟩ : ∃ m, a0d (sub y 4 4) = m := ⟨_, rfl⟩
  have lF : fl < 256 := by rw [← hfl]; exact UInt8.toNat_lt _
  have lS : sq < 4294967296 := by rw [← hsq]; exact b0c y 4 4 (by omega)
  have s4y : (sub y 4 4).length ≤ 4 := by rw [a0k (by omega)]; omega
  have y4 : Hid (∀ W, a02 (fun _ => False) w W → Hid (a0a W (.slice (some ⟨gy, oy + 4, none⟩) 4 (cy - 4)) (sub y 4 4))) := Hi (fun W k => Hi (a0c (hry.out W k) (by omega) 4 4 (by omega)))
  have hc3 : Hid (∀ W, a02 (fun _ => False) w W → W.cell? ⟨gy, oy + 3, none⟩ = some (.int .u8 fl)) := Hi (fun W k => by
   have := a0i (hry.out W k) 3 (by omega)
   rw [this, ← hfl, List.getD_eq_getElem?_getD, List.getElem?_eq_getElem (by omega)]; rfl)
  have hsq' := Hi hsq
  have hgl : Hid (P = b06 ⟨2, rt, ar, a, 0, 0, 0, 0, 0, 0, [], (fl : Nat), sq, [], [], []⟩ y 8 ∧ er = 0) := Hi (by
   have e := hPy.out
   rw [t2, show ((2 : Nat) : Int) = 2 from rfl, hear_2 rt ar a y (by omega), hsq, hfl] at e
   injection e with e1 e2
   exact ⟨e1.symm, e2.symm⟩)
  clear hsq hfl
  have wF : IntKind.i64.wrap (fl : Int) = (fl : Int) := IntWalk.i64_in _ (by omega)
  have wS : IntKind.u32.wrap (sq : Int) = (sq : Int) := by rw [c01]; omega
  have q8 : (8 : Int) ≤ cy := by omega
  have q3 : (3 : Int) < ny := by omega
  have n4 : ¬ cy = 4 := by omega
  clear hyl'
  go_upto_region 32 with fail
  refine wp_region_noPanic ?_
  refine wp_region_held_drew (S := (fun W => a02 (fun _ => False) w W)) (by kernel_rfl) (hk8.out.drew) (fun hHeld => ?_)
  obtain ⟨W0, hW0⟩ : ∃ W0, W0 = w8.drew := ⟨_, rfl⟩
  have hB0 : a06 W0 BP 30 (Pa' ty rt ar S 0 0 0 0 0 0 Sn 0 0 Sn Sn Sn) := by rw [hW0]; exact hBP.out.keep ((a02.refl (fun _ => False) w8).drew) id
  have hxW : Hid (a02 (fun i => i = BP) w8 W0) := Hi (by rw [hW0]; exact (a02.refl _ _).drew)
  rw [← hW0] at hHeld ⊢
  have hcA := hB0.cell 11 (.int .i64 0) rfl
  have hfA := hB0.frozen 11
  have hB1 := hB0.put 11 (.int .i64 (fl : Nat))
  have hcB := hB1.cell 12 (.int .u32 0) rfl
  have hfB := hB1.frozen 12
  have hB2 := Hi (hB1.put 12 (.int .u32 (sq : Nat)))
  have hx1 : Hid (a02 (fun i => i = BP) w8 ((W0.setCell ⟨BP, 11, none⟩ (.int .i64 (fl : Nat))).setCell ⟨BP, 12, none⟩ (.int .u32 (sq : Nat)))) := Hi ((hxW.out.setCell (p := ⟨BP, 11, none⟩) (.inl rfl) _).setCell (p := ⟨BP, 12, none⟩) (.inl rfl) _)
  clear hB0 hB1 hW0 hxW
  refine tk 0 rfl ?_
  refine tk 1 rfl ?_
  refine tk 4 rfl ?_
  refine tk 5 rfl ?_
  refine tkL 2 rfl (a04 (by rfl) 5 (.tmp 161) rfl gy (oy + 3) rfl _ (fun _ s => hc3.out _ s) (fun w s => g05 w _ _ _ s)) ?_
  refine tk 3 rfl ?_
  refine tk 8 rfl ?_
  refine sL 6 rfl fun K hK => ?_
  go_simp
  (refine (a0y _ _ sq s4y _ (y4.out _ hHeld) hsq').mono ?_; rintro e w' ⟨rfl, rfl⟩)
  go_wp2_with fail
  refine hK.out _ _ (hHeld) (fun hHeld => ?_)
  clear hK K
  try simp only [Act.put, sA, sZ, sS]
  refine tk 7 rfl ?_
  refine sL 9 rfl fun K hK => ?_
  go_simp
  refine hK.out _ _ ((hHeld.setCell (p := ⟨BP, 11, none⟩) (.inr (Nat.le_of_lt hRB.out)) _)) (fun hHeld => ?_)
  clear hK K
  try simp only [Act.put, sA, sZ, sS]
  refine tk 10 rfl ?_
  refine sL 11 rfl fun K hK => ?_
  go_simp
  refine hK.out _ _ ((hHeld.setCell (p := ⟨BP, 12, none⟩) (.inr (Nat.le_of_lt hRB.out)) _)) (fun hHeld => ?_)
  clear hK K
  try simp only [Act.put, sA, sZ, sS]
  refine wpAnyH_done (by kernel_rfl) (NoPanic.normal ?_) _
  clear hHeld hcA hfA hcB hfB q8 q3 n4 wF wS s4y y4 hc3
  go_wp2_with fail
  first | refine hJ _ _ ?_ | skip
  unfold MidP
  refine ⟨rfl, rfl, rfl, rfl, rfl, ⟨2, rt, ar, a, 0, 0, 0, 0, 0, 0, [], (fl : Nat), sq, [], [], []⟩, y, 8, none, none, none, 0, 0, 0, (some ⟨gy, oy, none⟩), ny, cy, rfl, rfl, by omega, by omega, by omega, hyl, hyb, Hi ?_, Hi ?_, hx1, Hi ?_, Hi ?_, Hi rfl⟩
  ·have h1 := hB2.out
   rw [t2, hS.out] at h1
   exact h1
  ·exact ⟨a0u.nil _, c0s _, d0n.nil _ _, b0s.nil _, b0s.nil _⟩
  ·rw [hGg.out, hgl.out.2, if_neg (by simp), ← hgl.out.1]
  ·rw [← hgl.out.1]; exact hokP.out
end Go.Proofs.Ytmggbljkehclpaa
