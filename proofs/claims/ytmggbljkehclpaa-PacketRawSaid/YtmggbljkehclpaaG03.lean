/- BY SUA SUB LA -/
import Derived.Test.YtmggbljkehclpaaG02
import Derived.Laws.AppendOwnNone
import Derived.Laws.Cover3
import Derived.Laws.IdiomStrings
import Derived.Lib.Strings
set_option linter.unusedVariables false
set_option linter.unusedSimpArgs false
namespace Go.Proofs.Ytmggbljkehclpaa
open Go.RowKit
theorem n0p : (Try.prog.info? 5).map (·.size) = some 1 := by kernel_rfl
theorem b0g : (Try.prog.info? 5).map (fun i => (i.zero, i.size, i.bytes)) = some (some (.int .u8 0), 1, 1) := by kernel_rfl
def bv (x : UInt8) : Value := .int .u8 x.toNat
theorem o09 (l : List UInt8) : ∀ v ∈ l.map bv, v.oneCell' = true := by
 intro v hv; obtain ⟨x, _, rfl⟩ := List.mem_map.1 hv; rfl
def World.blockAt (w : World) (g : Nat) (t : TypeId) (n : Nat) : Prop := ∃ C : Array Value, w.heap[g]? = some (.cells C t (0, 0)) ∧ C.size = n
theorem World.blockAt.lt {w : World} {g t n : Nat} (h : World.blockAt w g t n) : g < w.heap.size := by obtain ⟨C, h, _⟩ := h; exact lt_of_block h
theorem World.blockAt.there {w : World} {g t n : Nat} (h : World.blockAt w g t n) (o m : Nat) (hm : o + m ≤ n) : w.there g o m := by
 obtain ⟨C, h, hn⟩ := h
 intro j hj
 refine ⟨?_, ?_⟩
 ·simp [World.cell?, h]; omega
 ·simp [World.frozen?, h]
theorem World.blockAt.keep {F : Nat → Prop} {w w' : World} {g t n : Nat} (h : World.blockAt w g t n) (k : a02 F w w') (hF : ¬ F g) : World.blockAt w' g t n := by
 have hl := h.lt
 obtain ⟨C, h, hn⟩ := h
 exact ⟨C, by rw [k.block g hl hF]; exact h, hn⟩
def a0a (w : World) (v : Value) (x : List UInt8) : Prop :=
 ∃ p c, v = .slice p x.length c ∧ (p = none → c = 0) ∧ x.length ≤ c ∧ (0 < x.length → ∃ b o, p = some ⟨b, o, none⟩ ∧ w.rangeAt b o (x.map bv))
theorem a0a.keepF {F : Nat → Prop} {w w' : World} {v : Value} {x : List UInt8} (h : a0a w v x) (k : a02 F w w') (hF : 0 < x.length → ∀ i, v.ownBlock = some i → ¬ F i) : a0a w' v x := by
 obtain ⟨p, c, rfl, hp, hc, h⟩ := h
 exact ⟨p, c, rfl, hp, hc, fun h0 => by obtain ⟨b, o, rfl, hr⟩ := h h0; exact ⟨b, o, rfl, k.rangeAt hr (hF h0 b rfl)⟩⟩
theorem a0a.keep {w w' : World} {v : Value} {x : List UInt8} (h : a0a w v x) (k : a02 (fun _ => False) w w') : a0a w' v x := h.keepF k (fun _ _ _ f => f)
theorem a0a.nil (w : World) : a0a w (.slice none 0 0) [] := ⟨none, 0, rfl, fun _ => rfl, Nat.le_refl _, fun h => by simp at h⟩
theorem a0a.of {w : World} {g o n c : Nat} {x : List UInt8} (hn : x.length = n) (hc : n ≤ c) (h : w.rangeAt g o (x.map bv)) : a0a w (.slice (some ⟨g, o, none⟩) n c) x :=
 ⟨some ⟨g, o, none⟩, c, by rw [hn], (fun h => nomatch h), by omega, fun _ => ⟨g, o, rfl, h⟩⟩
theorem c0e {w : World} {g o : Nat} {x : List UInt8} (h : w.rangeAt g o (x.map bv)) (i n : Nat) : w.rangeAt g (o + i) (((x.drop i).take n).map bv) := fun j u hu => by
 rw [List.map_take, List.getElem?_take] at hu
 split at hu
 ·rw [List.map_drop, List.getElem?_drop] at hu
  have := h (i + j) u hu
  rw [Nat.add_assoc]; exact this
 ·cases hu
def h0i (x : List UInt8) (i : Nat) (l : List UInt8) : List UInt8 := x.take i ++ l ++ x.drop (i + l.length)
theorem q03 (x : List UInt8) (i : Nat) (l : List UInt8) (h : i + l.length ≤ x.length) : (h0i x i l).length = x.length := by
 unfold h0i; simp; omega
theorem q02 (x : List UInt8) (i : Nat) : h0i x i [] = x := by unfold h0i; simp
theorem l0w (x : List UInt8) (i : Nat) (l : List UInt8) (h : i + l.length ≤ x.length) (j : Nat) : (h0i x i l)[j]? = if i ≤ j ∧ j < i + l.length then l[j - i]? else x[j]? := by
 unfold h0i
 rw [List.append_assoc, List.getElem?_append, List.getElem?_append, List.getElem?_take, List.getElem?_drop]
 have h1 : (x.take i).length = i := by simp; omega
 rw [h1]
 by_cases hj : j < i
 ·rw [if_pos hj, if_pos hj, if_neg (by omega)]
 ·rw [if_neg hj]
  by_cases hj2 : j - i < l.length
  ·rw [if_pos hj2, if_pos (by omega)]
  ·rw [if_neg hj2, if_neg (by omega)]; congr 1; omega
def be : Nat → Nat → List UInt8
 | 0, _ => []
 | k + 1, n => UInt8.ofNat (n / 256 ^ k) :: be k n
theorem a0b (k n : Nat) : (be k n).length = k := by
 induction k with
 | zero => rfl
 | succ k ih => simp [be, ih]
def a0d (l : List UInt8) : Nat := l.foldl (fun n c => n * 256 + c.toNat) 0
def f0b (w : World) (g : Nat) (x : List UInt8) : Prop := w.heap[g]? = some (.cells (x.map bv).toArray 5 (0, 0))
theorem f0b.lt {w : World} {g : Nat} {x : List UInt8} (h : f0b w g x) : g < w.heap.size := lt_of_block h
theorem f0b.range {w : World} {g : Nat} {x : List UInt8} (h : f0b w g x) : w.rangeAt g 0 (x.map bv) := fun j u hu => by
 have h : w.heap[g]? = _ := h
 simp [World.cell?, h]; simpa using hu
theorem f0b.there {w : World} {g : Nat} {x : List UInt8} (h : f0b w g x) (o n : Nat) (hn : o + n ≤ x.length) : w.there g o n :=
 World.blockAt.there (t := 5) (n := x.length) ⟨_, h, by simp⟩ o n hn
theorem f0b.set {w : World} {g : Nat} {x : List UInt8} (h : f0b w g x) (i : Nat) (b : UInt8) : f0b (w.setCell ⟨g, i, none⟩ (bv b)) g (x.set i b) := by
 unfold f0b
 rw [i0v h]
 simp
theorem f0b.sets {g : Nat} : ∀ (l : List UInt8) (o : Nat) (x : List UInt8) (w : World), f0b w g x → o + l.length ≤ x.length → f0b (w.setCells g o (l.map bv)) g (h0i x o l)
 | [], o, x, w, h, _ => by rw [q02]; exact h
 | b :: l, o, x, w, h, hl => by
  simp only [List.length_cons] at hl
  have h1 := f0b.sets l (o + 1) (x.set o b) (w.setCell ⟨g, o, none⟩ (bv b)) (h.set o b) (by simp; omega)
  have e : h0i (x.set o b) (o + 1) l = h0i x o (b :: l) := by
   apply List.ext_getElem?
   intro j
   rw [l0w _ _ _ (by simp; omega), l0w _ _ _ (by simp; omega)]
   simp only [List.length_cons]
   by_cases hj : o ≤ j ∧ j < o + (l.length + 1)
   ·rw [if_pos hj]
    by_cases hj2 : o = j
    ·subst hj2; rw [if_neg (by omega), List.getElem?_set, if_pos rfl, if_pos (by omega)]; simp
    ·rw [if_pos (by omega), show j - o = (j - (o + 1)) + 1 by omega]; simp
   ·rw [if_neg hj, if_neg (by omega), List.getElem?_set, if_neg (by omega)]
  rw [e] at h1
  exact h1
def Laid (g o : Nat) (x l : List UInt8) (w w' : World) : Prop := f0b w' g (h0i x o l) ∧ a02 (fun k => k = g) w w'
theorem o0a (m : Nat) : Value.int .u8 ((m : Int) % 256) = bv (UInt8.ofNat m) := by
 unfold bv; congr 1
theorem n0j (l : List UInt8) : ∀ n : Nat, l.foldl (fun n c => n * 256 + c.toNat) n = n * 256 ^ l.length + a0d l := by
 unfold a0d
 induction l with
 | nil => intro n; simp
 | cons c l ih =>
  intro n
  rw [List.foldl_cons, List.foldl_cons, ih, ih (0 * 256 + c.toNat), List.length_cons, Nat.pow_succ]
  rw [Nat.add_mul, Nat.zero_mul, Nat.zero_add, Nat.mul_assoc, Nat.mul_comm 256]; omega
theorem i0b (c : UInt8) (l : List UInt8) : a0d (c :: l) = c.toNat * 256 ^ l.length + a0d l := by
 show l.foldl (fun n c => n * 256 + c.toNat) (0 * 256 + c.toNat) = _
 rw [n0j]; simp
theorem i0a (l : List UInt8) (c : UInt8) : a0d (l ++ [c]) = a0d l * 256 + c.toNat := by unfold a0d; rw [List.foldl_append]; rfl
theorem f0i (l : List UInt8) : a0d l < 256 ^ l.length := by
 induction l with
 | nil => simp [a0d]
 | cons c l ih =>
  rw [i0b, List.length_cons, Nat.pow_succ]
  have := c.toNat_lt
  have h2 : c.toNat * 256 ^ l.length ≤ 255 * 256 ^ l.length := Nat.mul_le_mul_right _ (by omega)
  omega
theorem l0a (k n : Nat) : a0d (be k n) = n % 256 ^ k := by
 induction k with
 | zero => simp [be, a0d, Nat.mod_one]
 | succ k ih =>
  rw [be, i0b, a0b, ih]
  have e : (UInt8.ofNat (n / 256 ^ k)).toNat = n / 256 ^ k % 256 := by simp
  rw [e, Nat.pow_succ, Nat.mod_mul, Nat.mul_comm]; omega
theorem o0b (l : List UInt8) : be l.length (a0d l) = l := by
 suffices h : ∀ (l : List UInt8) (m : Nat), be l.length (m * 256 ^ l.length + a0d l) = l by simpa using h l 0
 intro l
 induction l with
 | nil => intro m; rfl
 | cons c l ih =>
  intro m
  have hb := f0i l
  have hp : 0 < 256 ^ l.length := Nat.pow_pos (by omega)
  rw [List.length_cons, be, i0b]
  have e1 : m * 256 ^ (l.length + 1) + (c.toNat * 256 ^ l.length + a0d l) = (m * 256 + c.toNat) * 256 ^ l.length + a0d l := by
   rw [Nat.pow_succ, Nat.add_mul, Nat.mul_assoc, Nat.mul_comm (256 ^ l.length)]; omega
  rw [e1, ih (m * 256 + c.toNat)]
  have e2 : ((m * 256 + c.toNat) * 256 ^ l.length + a0d l) / 256 ^ l.length = m * 256 + c.toNat := by
   rw [Nat.add_comm, Nat.add_mul_div_right _ _ hp, Nat.div_eq_of_lt hb]; omega
  rw [e2]
  congr 1
  apply UInt8.toNat_inj.mp
  have := c.toNat_lt
  simp
theorem q05 (m : Nat) (c : UInt8) : (m * 256) ||| c.toNat = m * 256 + c.toNat := by
 have h := Nat.two_pow_add_eq_or_of_lt (i := 8) (b := c.toNat) c.toNat_lt m
 rw [show (2 : Nat) ^ 8 * m = m * 256 by omega] at h
 exact h.symm
def d0q (n : Nat) : List UInt8 := List.replicate n 0
theorem e0k (n : Nat) : (d0q n).length = n := by unfold d0q; simp
theorem g02 {w w1 : World} {n : Nat} (ho : w1.ownsRow 0 5 1 (.slice (some ⟨w.heap.size, 0, none⟩) n n) n (madeCells (Value.int .u8 0).cells (n * 1)).toList) : f0b w1 w.heap.size (d0q n) := by
 rcases ho.2 with ⟨h, _⟩ | ⟨g, cap, cur, he, _, hg, _, _, hcs, ht⟩
 ·cases h
 ·injection he with h1 h2 h3
  injection h1 with h1
  injection h1 with h1
  subst h1; subst h3
  unfold f0b
  rw [hg]
  have e : cur.toList = (d0q n).map bv := by
   have hm : (madeCells (Value.int .u8 0).cells (n * 1)).toList = (d0q n).map bv := by
    rw [Nat.mul_one]; unfold d0q; rw [List.map_replicate]; exact toList_madeCells_one (.int .u8 0) n
   rw [hm] at ht
   rw [← ht, List.take_of_length_le]
   rw [Array.length_toList, hcs]; omega
  rw [← e]
theorem a02.laid {a w w' : World} {g o : Nat} {x l : List UInt8} (k : a02 (fun _ => False) a w) (h : Laid g o x l w w') (hg : a.heap.size ≤ g) : a02 (fun _ => False) a w' := k.trans' h.2 (fun i e => .inr (by rw [e]; exact hg))
theorem f0h (g o c : Nat) (l : List UInt8) (W : World) (h : W.rangeAt g o (l.map bv)) : (convert 31 9 (.slice (some ⟨g, o, none⟩) l.length c)).run Try.prog W = .ok (.string ⟨l.toArray⟩) W :=
 run_convert_bytes_back W 31 9 5 ⟨g, o, none⟩ c l Try.underlying31 Try.underlying5 Try.underlying9 (fun j hj => by
  rw [Addr.add_mid]; have := h j (.int .u8 (l[j].toNat)) (by simp [hj, bv]); exact this)
theorem conv_nil (W : World) : (convert 31 9 (.slice none 0 0)).run Try.prog W = .ok (.string ⟨#[]⟩) W := by
 rw [run_convert_bytes_string W 31 9 5 none 0 0 Try.underlying31 Try.underlying5 Try.underlying9]; rfl
theorem c08 {W : World} {v : Value} {x : List UInt8} (h : a0a W v x) (h0 : 0 < x.length) : (convert 31 9 v).run Try.prog W = .ok (.string ⟨x.toArray⟩) W := by
 obtain ⟨p, c, rfl, -, -, h⟩ := h
 obtain ⟨g, o, rfl, hr⟩ := h h0
 exact f0h g o c _ W hr
theorem o0p (w : World) : (w.alloc (.cells #[] 5)).ownsRow 0 5 1 (.slice (some ⟨w.heap.size, 0, none⟩) 0 0) 0 [] :=
 ⟨rfl, .inr ⟨w.heap.size, 0, #[], rfl, Nat.zero_le _, heap_alloc_last w _, Nat.le_refl _, Nat.zero_le _, rfl, rfl⟩⟩
theorem o0q {w : World} {p : Option Addr} {n c : Nat} {x : List UInt8} (h : w.ownsRow 0 5 1 (.slice p n c) n (x.map bv)) : a0a w (.slice p n c) x := by
 have hl : x.length = n := by have := h.1; simpa using this
 subst hl
 rcases h.2 with ⟨e, h2⟩ | ⟨g, cap, cur, he, _, _, hle, _⟩
 ·injection e with e1 e2 e3; subst e1; subst e3
  exact ⟨none, 0, rfl, fun _ => rfl, by omega, fun h0 => by omega⟩
 ·injection he with e1 e2 e3
  subst e1; subst e3
  refine ⟨_, _, rfl, fun h => (by cases h), hle, fun h0 => ⟨g, 0, rfl, fun j u hu => ?_⟩⟩
  have := h.cells (g := g) rfl j u hu
  rw [Addr.add_mid] at this
  exact this
def OwnB (w0 w : World) (v : Value) (xs : List UInt8) : Prop :=
 w.ownsRow 0 5 1 v xs.length (xs.map bv) ∧ (∀ k, v.ownBlock = some k → w0.heap.size ≤ k) ∧ w0.heap.size ≤ w.heap.size
theorem OwnB.nil (w0 w : World) (h : w0.heap.size ≤ w.heap.size) : OwnB w0 w (.slice none 0 0) [] := ⟨⟨rfl, .inl ⟨rfl, rfl⟩⟩, by simp [Value.ownBlock], h⟩
theorem OwnB.slice {w0 w : World} {v : Value} {xs : List UInt8} (h : OwnB w0 w v xs) : ∃ p c, v = .slice p xs.length c := b0e h.1
theorem OwnB.bytes {w0 w : World} {v : Value} {xs : List UInt8} (h : OwnB w0 w v xs) : a0a w v xs := by
 obtain ⟨p, c, rfl⟩ := h.slice
 exact o0q h.1
theorem OwnB.keep {F : Nat → Prop} {w0 w w' : World} {v : Value} {xs : List UInt8} (h : OwnB w0 w v xs) (k : a02 F w w') (hF : ∀ i, v.ownBlock = some i → ¬ F i) : OwnB w0 w' v xs :=
 ⟨k.ownsRow h.1 hF, h.2.1, Nat.le_trans h.2.2 k.size⟩
theorem OwnB.older {w0 w1 w : World} {v : Value} {xs : List UInt8} (h : OwnB w1 w v xs) (hs : w0.heap.size ≤ w1.heap.size) : OwnB w0 w v xs := ⟨h.1, fun k e => Nat.le_trans hs (h.2.1 k e), Nat.le_trans hs h.2.2⟩
theorem OwnB.empty (w0 w : World) (h : w0.heap.size ≤ w.heap.size) : OwnB w0 (w.alloc (.cells #[] 5)) (.slice (some ⟨w.heap.size, 0, none⟩) 0 0) [] :=
 ⟨o0p w, fun k e => by simp only [Value.ownBlock, Option.some.injEq] at e; omega, by simp; omega⟩
theorem OwnB.new (w0 w : World) (h : w0.heap.size ≤ w.heap.size) (l : List UInt8) {n : Nat} (hn : l.length = n) (hm : n ≤ maxLen) : OwnB w0 (w.alloc (.cells (l.map bv).toArray 5)) (.slice (some ⟨w.heap.size, 0, none⟩) n n) l := by
 subst hn
 refine ⟨⟨by simp, .inr ⟨w.heap.size, l.length, (l.map bv).toArray, rfl, Nat.zero_le _, heap_alloc_last w _, Nat.le_refl _, hm, by simp, ?_⟩⟩, fun k e => by simp only [Value.ownBlock, Option.some.injEq] at e; omega, by simp; omega⟩
 rw [List.take_of_length_le (by simp)]
structure d06 (w : World) (v : Value) (p : Option Addr) (n c : Nat) (w' : World) : Prop where
 k : a02 (fun k => v.ownBlock = some k) w w'
 s : ∀ k, (Value.slice p n c).ownBlock = some k → v.ownBlock = some k ∨ w.heap.size ≤ k
theorem a0f {P : Program} {w : World} {ops : Array Oper} {rest : List Oper} {o : Oper} {a : Act} {Q : Exit → Act → World → Prop} (hgd : o.guard = none) (s x : Operand) (t : TypeId)
 (ho : o.op = .call { callee := .builtin .append, args := #[s, x], argTypes := #[t, t] })
 (i : TypeInfo) (ht : P.underlying t = some (.slice 5)) (hi : P.info? 5 = some i) (hz : i.zero = some (.int .u8 0)) (hsize : i.size = 1) (hby : i.bytes = 1)
 (w0 : World) (v : Value) (xs : List UInt8) (hs : a.eval s = v) (hown : OwnB w0 w v xs) (sv : Value) (hx : a.eval x = sv) (l : List UInt8) (hl : a0a w sv l) (hsz : xs.length + l.length ≤ 70368744177664)
 (h : ∀ p c w', Hid (OwnB w0 w' (.slice p (xs.length + l.length) c) (xs ++ l)) → Hid (d06 w v p (xs.length + l.length) c w') → wpList P ops Q rest (a.put o.dst (.slice p (xs.length + l.length) c)) w') : wpList P ops Q (o :: rest) a w := by
 obtain ⟨sp, sc, rfl, hp, -, hlr⟩ := hl
 cases sp with
 | none =>
  have h0 : l.length = 0 := by
   rcases Nat.eq_zero_or_pos l.length with h | h
   ·exact h
   ·obtain ⟨b, o, e, _⟩ := hlr h; cases e
  have hc := hp rfl
  subst hc
  have hl0 : l = [] := List.length_eq_zero_iff.1 h0
  subst hl0
  obtain ⟨p, c, rfl⟩ := hown.slice
  refine wpList_append_own_none hgd s x t ho 0 5 i 1 ht hi _ xs.length (xs.map bv) hs hown.1 hx ?_
  exact h p c w (Hi (by simpa using hown)) (Hi ⟨a02.refl _ _, fun k e => .inl e⟩)
 | some ad =>
  refine e0z hgd s x t ho 5 i (.int .u8 0) 1 1 ht hi hz hsize hby rfl (by decide) v xs.length (xs.map bv) hs hown.1 ad l.length sc (l.map bv) hx (by simp) (fun j u hu => ?_) (o09 l) (by unfold maxLen; omega) (by omega) ?_
  ·have h0 : 0 < l.length := by
    have := (List.getElem?_eq_some_iff.1 hu).1; simp at this; omega
   obtain ⟨b, o, e, hr⟩ := hlr h0
   injection e with e; subst e
   rw [Addr.add_mid]; exact hr j u hu
  ·intro p c w' h1 h2 h3
   refine h p c w' (Hi ⟨by simpa using h1, fun k e => ?_, Nat.le_trans hown.2.2 h2.size⟩) (Hi ⟨(a02.refl _ _).grown h2 (fun k e => .inl e), h3.out⟩)
   rcases h3.out k e with e | e
   ·exact hown.2.1 k e
   ·exact Nat.le_trans hown.2.2 e
end Go.Proofs.Ytmggbljkehclpaa
namespace Go.Proofs.Ytmggbljkehclpaa
def e0n (s : Nat) : Nat := if s = 0 then 0 else (s - 1) % 65535 + 1
theorem o08 (s : Nat) : e0n s ≤ 65535 := by unfold e0n; split <;> omega
theorem j0m {s : Nat} (h : s ≤ 65535) : e0n s = s := by unfold e0n; split <;> omega
theorem k0l {s : Nat} (h : 65536 ≤ s) : e0n (s % 65536 + s / 65536) = e0n s := by unfold e0n; split <;> split <;> omega
theorem q0k (a x : Nat) : e0n (e0n a + x) = e0n (a + x) := by
 unfold e0n; split
 ·subst_vars; simp
 ·split <;> split <;> omega
def isum : Bool → List UInt8 → Nat
 | _, [] => 0
 | true, c :: l => c.toNat * 256 + isum false l
 | false, c :: l => c.toNat + isum true l
def par (n : Nat) : Bool := decide (n % 2 = 0)
theorem par_succ (n : Nat) : par (n + 1) = !par n := by unfold par; rw [← decide_not, decide_eq_decide]; omega
theorem h0n (l : List UInt8) : ∀ (b : Bool) (c : UInt8), isum b (l ++ [c]) = isum b l + (if (if par l.length then b else !b) then c.toNat * 256 else c.toNat) := by
 induction l with
 | nil => intro b c; cases b <;> simp [isum, par]
 | cons x l ih =>
  intro b c
  rw [List.length_cons, par_succ]
  cases b
  ·show x.toNat + isum true (l ++ [c]) = x.toNat + isum true l + _
   rw [ih, Nat.add_assoc]; cases par l.length <;> rfl
  ·show x.toNat * 256 + isum false (l ++ [c]) = x.toNat * 256 + isum false l + _
   rw [ih, Nat.add_assoc]; cases par l.length <;> rfl
def inet (l : List UInt8) : Nat := 65535 - e0n (isum true l)
theorem q0d (l : List UInt8) : ∀ b, isum b l ≤ 65280 * l.length := by
 induction l with
 | nil => intro b; cases b <;> simp [isum]
 | cons x l ih =>
  intro b
  have := x.toNat_lt
  cases b
  ·have := ih true; simp only [isum, List.length_cons]; omega
  ·have := ih false; simp only [isum, List.length_cons]; omega
def fl (p : Nat × Nat) (l : List UInt8) : Nat × Nat := l.foldl (fun q x => ((q.1 + x.toNat) % 255, (q.2 + (q.1 + x.toNat) % 255) % 255)) p
theorem h0t (p : Nat × Nat) (l m : List UInt8) : fl p (l ++ m) = fl (fl p l) m := List.foldl_append ..
theorem q0i (p : Nat × Nat) (x : UInt8) (l : List UInt8) : fl p (x :: l) = fl ((p.1 + x.toNat) % 255, (p.2 + (p.1 + x.toNat) % 255) % 255) l := rfl
theorem fl_lt (l : List UInt8) : ∀ p : Nat × Nat, p.1 < 255 → p.2 < 255 → (fl p l).1 < 255 ∧ (fl p l).2 < 255 := by
 induction l with
 | nil => intro p h1 h2; exact ⟨h1, h2⟩
 | cons x l ih => intro p _ _; rw [q0i]; exact ih _ (Nat.mod_lt _ (by omega)) (Nat.mod_lt _ (by omega))
def s0 (l : List UInt8) : Nat := match l with | [] => 0 | x :: l => x.toNat + s0 l
def s1 (l : List UInt8) : Nat := match l with | [] => 0 | x :: l => x.toNat * (l.length + 1) + s1 l
theorem l0l (l m : List UInt8) : s0 (l ++ m) = s0 l + s0 m := by
 induction l with
 | nil => simp [s0]
 | cons x l ih => simp only [List.cons_append, s0, ih]; omega
theorem p0o (l m : List UInt8) : s1 (l ++ m) = s1 l + s0 l * m.length + s1 m := by
 induction l with
 | nil => simp [s0, s1]
 | cons x l ih =>
  simp only [List.cons_append, s0, s1, ih, List.length_append]
  rw [Nat.add_mul (x.toNat), show x.toNat * (l.length + m.length + 1) = x.toNat * (l.length + 1) + x.toNat * m.length by rw [← Nat.mul_add]; congr 1; omega]
  omega
theorem fl_eq (l : List UInt8) : ∀ p : Nat × Nat, p.1 < 255 → p.2 < 255 → fl p l = ((p.1 + s0 l) % 255, (p.2 + p.1 * l.length + s1 l) % 255) := by
 induction l with
 | nil => intro p h1 h2; simp [fl, s0, s1]; ext <;> simp <;> omega
 | cons x l ih =>
  intro p h1 h2
  rw [q0i, ih _ (Nat.mod_lt _ (by omega)) (Nat.mod_lt _ (by omega))]
  simp only [s0, s1, List.length_cons]
  refine Prod.ext (by simp only; omega) ?_
  simp only
  generalize s1 l = t
  generalize l.length = n
  generalize hx : x.toNat = y
  obtain ⟨a, b⟩ := p
  simp only at h1 h2 ⊢
  have e : (a + y) % 255 * n % 255 = (a + y) * n % 255 := by rw [Nat.mod_mul_mod]
  have e2 : a * (n + 1) + y * (n + 1) = (a + y) * n + (a + y) := by rw [← Nat.add_mul, Nat.mul_add]; omega
  have e3 : ((b + (a + y) % 255) % 255 + (a + y) % 255 * n + t) % 255 = (b + (a + y) + (a + y) % 255 * n + t) % 255 := by omega
  rw [e3]
  generalize (a + y) % 255 * n = u at *
  generalize (a + y) * n = v at *
  omega
def b0h (l : List UInt8) : Bool := decide (s0 l % 255 = 0 ∧ s1 l % 255 = 0)
theorem n0i (l : List UInt8) : fl (0, 0) l = (s0 l % 255, s1 l % 255) := by rw [fl_eq _ _ (by decide) (by decide)]; simp
def zed (l : List UInt8) (k : Nat) : List UInt8 := (l.set k 0).set (k + 1) 0
theorem p0g (l : List UInt8) (k : Nat) : (zed l k).length = l.length := by unfold zed; simp
theorem zed_eq {l : List UInt8} {k : Nat} (h : k + 2 ≤ l.length) : l.take k ++ [0, 0] ++ l.drop (k + 2) = zed l k := by
 unfold zed
 apply List.ext_getElem?
 intro j
 have h1 : (l.take k).length = k := by simp; omega
 rw [List.append_assoc, List.getElem?_append, h1, List.getElem?_set, List.getElem?_set, List.getElem?_take]
 simp only [List.length_set]
 by_cases a : j < k
 ·rw [if_pos a, if_pos a, if_neg (by omega), if_neg (by omega)]
 ·rw [if_neg a]
  by_cases b : j = k
  ·subst b; rw [if_neg (by omega), if_pos rfl, if_pos (by omega)]; simp
  ·by_cases c : j = k + 1
   ·subst c; rw [if_pos rfl, if_pos (by omega), show k + 1 - k = 1 by omega]; rfl
   ·rw [if_neg (by omega), if_neg (by omega), List.getElem?_append, if_neg (by simp; omega), List.getElem?_drop]; congr 1; simp; omega
theorem zed_get {l : List UInt8} {k j : Nat} (h : j < l.length) : (zed l k)[j]'(by rw [p0g]; exact h) = if j = k ∨ j = k + 1 then 0 else l[j] := by
 unfold zed
 rw [List.getElem_set, List.getElem_set]
 by_cases a : k + 1 = j
 ·rw [if_pos a, if_pos (.inr a.symm)]
 ·rw [if_neg a]
  by_cases b : k = j
  ·rw [if_pos b, if_pos (.inl b.symm)]
  ·rw [if_neg b, if_neg (by omega)]
def flX (z : List UInt8) (n k : Nat) : Nat := ((n - k - 1) % 255 * (s0 z % 255) + 255 - s1 z % 255) % 255
def flY (z : List UInt8) (n k : Nat) : Nat := (510 - s0 z % 255 - flX z n k) % 255
theorem m09 (z : List UInt8) (n k : Nat) : flX z n k < 255 := Nat.mod_lt _ (by omega)
theorem o05 (z : List UInt8) (n k : Nat) : flY z n k < 255 := Nat.mod_lt _ (by omega)
theorem fl_cond {s t q p x : Nat} (hs : s < 255) (ht : t < 255) (hx : x < 255) (hp : p % 255 = (q + 1) % 255) :
 (t + x * p + (510 - s - x) % 255 * q) % 255 = 0 ↔ x = (q * s + 255 - t) % 255 := by
 have h1 : x * p % 255 = (x * q + x) % 255 := by rw [Nat.mul_mod, hp, ← Nat.mul_mod, Nat.mul_add, Nat.mul_one]
 obtain ⟨y, hy⟩ : ∃ y, y = (510 - s - x) % 255 := ⟨_, rfl⟩
 obtain ⟨k, hk⟩ : ∃ k, k = (510 - s - x) / 255 := ⟨_, rfl⟩
 have h2 : y + s + x + 255 * k = 510 := by omega
 rw [← hy]
 have h3 : y * q + s * q + x * q + 255 * (k * q) = 510 * q := by
  have := congrArg (· * q) h2
  simp only [Nat.add_mul] at this
  rw [Nat.mul_assoc] at this
  exact this
 have hqs : q * s = s * q := Nat.mul_comm _ _
 rw [hqs]
 generalize x * p = a at *
 generalize x * q = b at *
 generalize y * q = c at *
 generalize s * q = d at *
 generalize k * q = e at *
 omega
def tsum (z : List UInt8) (i : Nat) : Nat := s1 (z.take i) + s0 (z.take i) * (z.length - i)
theorem p0j (z : List UInt8) : tsum z 0 = 0 := by simp [tsum, s0, s1]
theorem tsum_all (z : List UInt8) : tsum z z.length = s1 z := by simp [tsum]
theorem p0k (z : List UInt8) (i : Nat) (h : i < z.length) : tsum z (i + 1) = tsum z i + z[i].toNat * (z.length - i) := by
 unfold tsum
 rw [List.take_succ_eq_append_getElem h, p0o, l0l]
 simp only [s0, s1, List.length_cons, List.length_nil, Nat.add_zero, Nat.zero_add, Nat.mul_one]
 obtain ⟨m, hm⟩ : ∃ m, z.length - i = m + 1 := ⟨z.length - i - 1, by omega⟩
 rw [hm, show z.length - (i + 1) = m by omega, Nat.add_mul, Nat.mul_add, Nat.mul_add]; omega
theorem s0_snoc (z : List UInt8) (i : Nat) (h : i < z.length) : s0 (z.take (i + 1)) = s0 (z.take i) + z[i].toNat := by
 rw [List.take_succ_eq_append_getElem h, l0l]; simp [s0]
end Go.Proofs.Ytmggbljkehclpaa
namespace Go.Proofs.Ytmggbljkehclpaa
open Go.RowKit
theorem ret_int {k : IntKind} {a b : Int} (h : a = b) : Ending.returned (.int k a) = .returned (.int k b) := by rw [h]
theorem k0u {k : IntKind} {a b c d : Int} (h : a = c) (h2 : b = d) : Ending.returned (.tuple #[.int k a, .int k b]) = .returned (.tuple #[.int k c, .int k d]) := by rw [h, h2]
theorem a0i {w : World} {g o : Nat} {l : List UInt8} (h : w.rangeAt g o (l.map bv)) (k : Nat) (hk : k < l.length) : w.cell? ⟨g, o + k, none⟩ = some (.int .u8 (l[k]).toNat) := h k _ (by simp [hk, bv])
theorem k02 (c0 c1 : Nat) (h0 : c0 < 255) (h1 : c1 < 255) (sl : Value) (l : List UInt8) (hl : l.length ≤ 9223372036854775807) (w : World) (h : Hid (a0a w sl l)) :
 Calls Try.prog 80 #[.int .i64 c0, .int .i64 c1, sl] w fun e w' => e = .returned (.tuple #[.int .i64 ((fl (c0, c1) l).1 : Nat), .int .i64 ((fl (c0, c1) l).2 : Nat)]) ∧ w = w' := by
 obtain ⟨p, c, rfl, -, -, hb⟩ := h.out
 have hb' := Hi hb; clear hb h
 go_enter Try.func80, Try.ntmps80
 go_wp2
 go_loop [0, 1, 12] (fun a b iv => ∃ k : Nat, k ≤ l.length ∧ a = .int .i64 ((fl (c0, c1) (l.take k)).1 : Nat) ∧ b = .int .i64 ((fl (c0, c1) (l.take k)).2 : Nat) ∧ iv = .int .i64 k) (fun _ _ iv => l.length - (intOf iv).toNat)
 case atStart => exact ⟨0, by omega, rfl, rfl, rfl⟩
 case round =>
  obtain ⟨k, hk, rfl, rfl, rfl⟩ := hrel
  by_cases hlk : k < l.length
  ·obtain ⟨g, o, rfl, hr⟩ := hb'.out (by omega)
   have hc := a0i hr k hlk
   have hx := (l[k]).toNat_lt
   obtain ⟨q, hq⟩ : ∃ q, q = fl (c0, c1) (l.take k) := ⟨_, rfl⟩
   have hlt := fl_lt (l.take k) (c0, c1) h0 h1
   have hs : fl (c0, c1) (l.take (k + 1)) = ((q.1 + (l[k]).toNat) % 255, (q.2 + (q.1 + (l[k]).toNat) % 255) % 255) := by
    rw [List.take_succ_eq_append_getElem hlk, h0t, ← hq]; rfl
   rw [← hq] at hlt ⊢
   obtain ⟨q1, q2⟩ := q
   obtain ⟨hl1, hl2⟩ := hlt
   simp only at hl1 hl2 hs ⊢
   have hs' := Hi hs; have hq' := Hi hq; clear hs hr hq
   go_wp2
   go_round
   case rel => exact ⟨k + 1, by omega, by rw [hs'.out]; go_num, by rw [hs'.out]; go_num, by go_num⟩
   case measure => simp [intOf]; omega
  ·obtain rfl : k = l.length := by omega
   rw [List.take_length]
   go_wp2
   go_ret2
   exact ⟨rfl, rfl⟩
theorem m0r (sl : Value) (l : List UInt8) (hl : l.length ≤ 9223372036854775807) (w : World) (h : Hid (a0a w sl l)) :
 Calls Try.prog 74 #[sl] w fun e w' => e = .returned (.bool (b0h l)) ∧ w = w' := by
 have hf := n0i l
 have hr : b0h l = decide ((fl (0, 0) l).1 = 0 ∧ (fl (0, 0) l).2 = 0) := by rw [hf]; rfl
 obtain ⟨q, hq⟩ : ∃ q, q = fl (0, 0) l := ⟨_, rfl⟩
 have hG := k02 0 0 (by omega) (by omega) sl l hl w h
 rw [← hq] at hr hG
 rw [hr]
 have hG' := Hi hG
 obtain ⟨q1, q2⟩ := q
 clear hf hr hq hG
 by_cases a : q1 = 0
 ·by_cases b : q2 = 0
  ·subst a; subst b
   go_enter Try.func74, Try.ntmps74
   go_wp2_with (go_at_call 80; refine hG'.out.mono ?_; rintro e w' ⟨rfl, rfl⟩)
   go_ret
   exact ⟨rfl, rfl⟩
  ·have e1 : ((q2 : Int) == 0) = false := by rw [beq_eq_false_iff_ne]; omega
   have hz : decide (q1 = 0 ∧ q2 = 0) = false := by simp [b]
   subst a
   rw [show decide ((0, q2).1 = 0 ∧ (0, q2).2 = 0) = false from hz]
   clear hz b
   go_enter Try.func74, Try.ntmps74
   go_wp2_with (go_at_call 80; refine hG'.out.mono ?_; rintro e w' ⟨rfl, rfl⟩)
   go_ret
   exact ⟨rfl, rfl⟩
 ·have e1 : ((q1 : Int) == 0) = false := by rw [beq_eq_false_iff_ne]; omega
  have hz : decide (q1 = 0 ∧ q2 = 0) = false := by simp [a]
  rw [show decide ((q1, q2).1 = 0 ∧ (q1, q2).2 = 0) = false from hz]
  clear hz a
  go_enter Try.func74, Try.ntmps74
  go_wp2_with (go_at_call 80; refine hG'.out.mono ?_; rintro e w' ⟨rfl, rfl⟩)
  go_ret
  exact ⟨rfl, rfl⟩
theorem d0y (m : Nat) : bv (UInt8.ofNat m) = .int .u8 ((m : Int) % 256) := (o0a m).symm
theorem be2 (n : Nat) : be 2 n = [UInt8.ofNat (n / 256), UInt8.ofNat n] := by simp [be]
theorem be4 (n : Nat) : be 4 n = [UInt8.ofNat (n / 16777216), UInt8.ofNat (n / 65536), UInt8.ofNat (n / 256), UInt8.ofNat n] := by simp [be]
theorem d06.trans {w wr w2 : World} {v : Value} {q q2 : Option Addr} {n n2 d d2 : Nat} (h : d06 w v q n d wr) (g : d06 wr (.slice q n d) q2 n2 d2 w2) : d06 w v q2 n2 d2 w2 :=
 ⟨h.k.trans' g.k (fun i e => h.s i e), fun k e => by
  rcases g.s k e with e | e
  ·exact h.s k e
  ·exact .inr (Nat.le_trans h.k.size e)⟩
theorem k0b {w0 w : World} {v : Value} {xs : List UInt8} (h : OwnB w0 w v xs) (k : Nat) (e : v.ownBlock = some k) : k < w.heap.size := by
 rcases h.1.2 with ⟨rfl, _⟩ | ⟨g, cap, cur, rfl, _, hg, _⟩
 ·simp [Value.ownBlock] at e
 ·simp only [Value.ownBlock, Option.some.injEq] at e; subst e; exact lt_of_block hg
def l0c (w0 : World) (v : Value) (xs l : List UInt8) (w : World) (e : Ending) (w' : World) : Prop :=
 ∃ p c, e = .returned (.slice p (xs.length + l.length) c) ∧ OwnB w0 w' (.slice p (xs.length + l.length) c) (xs ++ l) ∧ d06 w v p (xs.length + l.length) c w'
set_option maxRecDepth 100000 in
theorem c0c (w0 : World) (v : Value) (xs : List UInt8) (n : Nat) (hn : n < 65536) (hx : xs.length ≤ 1000000) (w : World) (h : Hid (OwnB w0 w v xs)) :
 Calls Try.prog 17 #[v, .int .u16 n] w (l0c w0 v xs (be 2 n) w) := by
 obtain ⟨i0, hi0, hz0, hz1, hz2⟩ := info_parts b0g
 have hsrc : Hid (a0a (w.alloc (.cells #[.int .u8 ((n : Int) / 256), .int .u8 ((n : Int) % 256)] 5)) (.slice (some ⟨w.heap.size, 0, none⟩) 2 2) (be 2 n)) := Hi (by
  have := (OwnB.new w w (Nat.le_refl _) (be 2 n) (n := 2) rfl (by unfold maxLen; omega)).bytes
  rw [be2, List.map_cons, List.map_cons, List.map_nil, d0y, d0y, show ((n / 256 : Nat) : Int) % 256 = (n : Int) / 256 by omega] at this
  rw [be2]; exact this)
 have hO := Hi (h.out.keep ((a02.refl (fun _ => False) _).alloc (.cells #[.int .u8 ((n : Int) / 256), .int .u8 ((n : Int) % 256)] 5)) (fun _ _ f => f))
 have hb := Hi (a0b 2 n)
 obtain ⟨pv, cv, rfl⟩ := h.out.slice
 go_enter Try.func17, Try.ntmps17
 go_wp2_with ((with_reducible refine a09 12 ?_); refine a0f rfl (.tmp 5) (.tmp 11) 31 rfl i0 Try.underlying31 hi0 hz0 hz1 hz2 w0 _ xs rfl hO.out _ rfl (be 2 n) hsrc.out (by rw [hb.out]; omega) ?_; intro q d w1 hO1 hG1)
 go_ret
 exact ⟨q, d, rfl, hO1.out, ((a02.refl _ _).alloc _).trans' hG1.out.k (fun i e => .inl e), fun k e => (hG1.out.s k e).imp id (fun h => by simp at h; omega)⟩
set_option maxRecDepth 100000 in
theorem e0f (w0 : World) (v : Value) (xs : List UInt8) (n : Nat) (hn : n < 4294967296) (hx : xs.length ≤ 1000000) (w : World) (h : Hid (OwnB w0 w v xs)) :
 Calls Try.prog 47 #[v, .int .u32 n] w (l0c w0 v xs (be 4 n) w) := by
 obtain ⟨i0, hi0, hz0, hz1, hz2⟩ := info_parts b0g
 have hsrc : Hid (a0a (w.alloc (.cells #[.int .u8 ((n : Int) / 16777216), .int .u8 ((n : Int) / 65536 % 256), .int .u8 ((n : Int) / 256 % 256), .int .u8 ((n : Int) % 256)] 5)) (.slice (some ⟨w.heap.size, 0, none⟩) 4 4) (be 4 n)) := Hi (by
  have := (OwnB.new w w (Nat.le_refl _) (be 4 n) (n := 4) rfl (by unfold maxLen; omega)).bytes
  rw [be4, List.map_cons, List.map_cons, List.map_cons, List.map_cons, List.map_nil, d0y, d0y, d0y, d0y, show ((n / 16777216 : Nat) : Int) % 256 = (n : Int) / 16777216 by omega] at this
  rw [be4]; exact this)
 have hO := Hi (h.out.keep ((a02.refl (fun _ => False) _).alloc (.cells #[.int .u8 ((n : Int) / 16777216), .int .u8 ((n : Int) / 65536 % 256), .int .u8 ((n : Int) / 256 % 256), .int .u8 ((n : Int) % 256)] 5)) (fun _ _ f => f))
 have hb := Hi (a0b 4 n)
 obtain ⟨pv, cv, rfl⟩ := h.out.slice
 go_enter Try.func47, Try.ntmps47
 go_wp2_with ((with_reducible refine a09 18 ?_); refine a0f rfl (.tmp 5) (.tmp 17) 31 rfl i0 Try.underlying31 hi0 hz0 hz1 hz2 w0 _ xs rfl hO.out _ rfl (be 4 n) hsrc.out (by rw [hb.out]; omega) ?_; intro q d w1 hO1 hG1)
 go_ret
 exact ⟨q, d, rfl, hO1.out, ((a02.refl _ _).alloc _).trans' hG1.out.k (fun i e => .inl e), fun k e => (hG1.out.s k e).imp id (fun h => by simp at h; omega)⟩
theorem or_low32 (m : Nat) (c : UInt8) (hm : m * 256 < 4294967296) : bits .or .u32 ((m : Int) * 256) (c.toNat : Int) = ((m * 256 + c.toNat : Nat) : Int) := by
 have hc := c.toNat_lt
 have h := u32_or_nat (m * 256) c.toNat hm (by omega)
 rw [q05, show ((m * 256 : Nat) : Int) = (m : Int) * 256 by omega] at h
 exact h
set_option maxHeartbeats 1000000 in
theorem o0f (sl : Value) (l : List UInt8) (hl : l.length ≤ 4) (w : World) (h : Hid (a0a w sl l)) :
 Calls Try.prog 29 #[sl] w fun e w' => e = .returned (.int .u32 (a0d l : Nat)) ∧ w = w' := by
 obtain ⟨p, c, rfl, -, -, hb⟩ := h.out
 have hb' := Hi hb; clear hb h
 go_enter Try.func29, Try.ntmps29
 go_wp2
 go_loop [3, 8] (fun nv iv => ∃ k : Nat, k ≤ l.length ∧ nv = .int .u32 (a0d (l.take k) : Nat) ∧ iv = .int .i64 k) (fun _ iv => 4 - (intOf iv).toNat)
 case atStart => exact ⟨0, by omega, by simp [a0d], rfl⟩
 case round =>
  obtain ⟨k, hk, rfl, rfl⟩ := hrel
  by_cases hlk : k < l.length
  ·obtain ⟨g, o, rfl, hr⟩ := hb'.out (by omega)
   have hc := a0i hr k hlk
   have hs : a0d (l.take (k + 1)) = a0d (l.take k) * 256 + (l[k]).toNat := by
    rw [List.take_succ_eq_append_getElem (by omega), i0a]
   have hs' := Hi hs; clear hs
   have hm : a0d (l.take k) < 16777216 := by
    have h1 := f0i (l.take k)
    have h2 : (l.take k).length ≤ 3 := by simp; omega
    have h3 : 256 ^ (l.take k).length ≤ 256 ^ 3 := Nat.pow_le_pow_right (by omega) h2
    omega
   have hx := (l[k]).toNat_lt
   obtain ⟨m, hmm⟩ : ∃ m, m = a0d (l.take k) := ⟨_, rfl⟩
   rw [← hmm] at hm hs' ⊢
   have ho := or_low32 m l[k] (by omega)
   clear hmm hr
   go_wp2
   exact ⟨⟨k + 1, by omega, by rw [hs'.out]; go_num, by go_num⟩, by simp [intOf]; omega⟩
  ·obtain rfl : k = l.length := by omega
   rw [List.take_length]
   go_wp2
   go_ret
   exact ⟨rfl, rfl⟩
theorem b0b (sl : Value) (l : List UInt8) (n : Nat) (hl : l.length ≤ 4) (w : World) (h : Hid (a0a w sl l)) (hn : Hid (a0d l = n)) :
 Calls Try.prog 29 #[sl] w fun e w' => e = .returned (.int .u32 n) ∧ w = w' := by
 rw [← hn.out]; exact o0f sl l hl w h
def nv (n : Nat) : Value := .int .u32 n
theorem nv_one (l : List Nat) : ∀ v ∈ l.map nv, v.oneCell' = true := by
 intro v hv; obtain ⟨x, _, rfl⟩ := List.mem_map.1 hv; rfl
theorem f02 : (Try.prog.info? 22).map (fun i => (i.zero, i.size, i.bytes)) = some (some (.int .u32 0), 1, 4) := by kernel_rfl
def h06 (ns : List Nat) : Prop := ∀ n ∈ ns, n < 4294967296
def a0u (w : World) (v : Value) (ns : List Nat) : Prop :=
 ∃ p c, v = .slice p ns.length c ∧ (p = none → c = 0) ∧ ns.length ≤ c ∧ (0 < ns.length → ∃ b o, p = some ⟨b, o, none⟩ ∧ w.rangeAt b o (ns.map nv))
theorem a0u.keepF {F : Nat → Prop} {w w' : World} {v : Value} {x : List Nat} (h : a0u w v x) (k : a02 F w w') (hF : 0 < x.length → ∀ i, v.ownBlock = some i → ¬ F i) : a0u w' v x := by
 obtain ⟨p, c, rfl, hp, hc, h⟩ := h
 exact ⟨p, c, rfl, hp, hc, fun h0 => by obtain ⟨b, o, rfl, hr⟩ := h h0; exact ⟨b, o, rfl, k.rangeAt hr (hF h0 b rfl)⟩⟩
theorem a0u.keep {w w' : World} {v : Value} {x : List Nat} (h : a0u w v x) (k : a02 (fun _ => False) w w') : a0u w' v x := h.keepF k (fun _ _ _ f => f)
theorem a0u.nil (w : World) : a0u w (.slice none 0 0) [] := ⟨none, 0, rfl, fun _ => rfl, Nat.le_refl _, fun h => by simp at h⟩
def bes (ns : List Nat) : List UInt8 := ns.flatMap (be 4)
theorem d0u (ns : List Nat) : (bes ns).length = 4 * ns.length := by
 induction ns with
 | nil => rfl
 | cons n ns ih => unfold bes at *; rw [List.flatMap_cons, List.length_append, ih, a0b, List.length_cons]; omega
theorem l09 (ns : List Nat) (n : Nat) : bes (ns ++ [n]) = bes ns ++ be 4 n := by unfold bes; simp
set_option maxRecDepth 100000 in
set_option maxHeartbeats 1000000 in
theorem c0k (w0 : World) (v : Value) (xs : List UInt8) (sv : Value) (ns : List Nat) (hs : Hid (h06 ns)) (hx : xs.length + 4 * ns.length ≤ 1000000) (w : World) (h : Hid (OwnB w0 w v xs)) (hn : Hid (a0u w sv ns)) (hsep : Hid (0 < ns.length → ∀ k, sv.ownBlock = some k → v.ownBlock ≠ some k ∧ k < w.heap.size)) :
 Calls Try.prog 18 #[v, sv] w (l0c w0 v xs (bes ns) w) := by
 obtain ⟨pv, cv, rfl⟩ := h.out.slice
 obtain ⟨p, c, rfl, -, -, hb⟩ := hn.out
 have hb' := Hi hb; clear hb
 go_enter Try.func18, Try.ntmps18
 go_wp2
 go_loopw [0, 9] (fun bw iv wr => ∃ k : Nat, k ≤ ns.length ∧ iv = .int .i64 k ∧ Hid (∃ q d, bw = .slice q (xs.length + 4 * k) d ∧ OwnB w0 wr bw (xs ++ bes (ns.take k)) ∧ d06 w (.slice pv xs.length cv) q (xs.length + 4 * k) d wr)) (fun _ iv _ => ns.length - (intOf iv).toNat)
 case atStart => exact ⟨0, by omega, rfl, Hi ⟨pv, cv, rfl, by simpa [bes] using h.out, a02.refl _ _, fun k e => .inl e⟩⟩
 case round =>
  obtain ⟨k, hk, rfl, hrow⟩ := hrel
  obtain ⟨q, d, rfl, hO, hG⟩ := hrow.out
  have hO' := Hi hO; have hG' := Hi hG
  have hlen : (xs ++ bes (ns.take k)).length = xs.length + 4 * k := by rw [List.length_append, d0u]; simp; omega
  clear hO hG hrow
  by_cases hlk : k < ns.length
  ·obtain ⟨g, o, rfl, hr⟩ := hb'.out (by omega)
   have hr1 : wr.rangeAt g o (ns.map nv) := hG'.out.k.rangeAt hr (fun e => (hsep.out (by omega) g rfl).1 e)
   have hcell : wr.cell? ⟨g, o + k, none⟩ = some (.int .u32 (ns[k] : Nat)) := hr1 k _ (by simp [hlk, nv])
   have hlt : ns[k] < 4294967296 := hs.out _ (List.getElem_mem hlk)
   have hbs := l09 (ns.take k) ns[k]
   rw [← List.take_succ_eq_append_getElem hlk] at hbs
   have hbs' := Hi hbs; have hlen' := Hi hlen
   clear hr hr1 hbs hlen
   go_wp2_with fail
   refine (e0f w0 _ (xs ++ bes (ns.take k)) ns[k] hlt (by rw [hlen'.out]; omega) _ hO').mono ?_
   rintro e w2 ⟨q2, d2, rfl, hO2, hG2⟩
   rw [hlen'.out, a0b] at *
   have hO2' := Hi hO2; have hG2' := Hi hG2
   clear hO2 hG2
   go_wp2_with fail
   exact ⟨⟨k + 1, by omega, by go_num, Hi ⟨q2, d2, by rw [show xs.length + 4 * (k + 1) = xs.length + 4 * k + 4 by omega], by rw [hbs'.out, ← List.append_assoc]; exact hO2'.out, by rw [show xs.length + 4 * (k + 1) = xs.length + 4 * k + 4 by omega]; exact hG'.out.trans hG2'.out⟩⟩, by simp [intOf]; omega⟩
  ·obtain rfl : k = ns.length := by omega
   go_wp2
   go_ret
   have hn2 := d0u ns
   rw [List.take_length] at hO'
   exact ⟨q, d, by rw [hn2]; rfl, by rw [hn2]; exact hO'.out, by rw [hn2]; exact hG'.out⟩
end Go.Proofs.Ytmggbljkehclpaa
