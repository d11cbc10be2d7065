/- BY SUA SUB LA -/
import Derived.Test.YtmggbljkehclpaaP02
import Derived.Laws.AppendOwnNone
import Derived.Laws.Cover3
import Derived.Laws.IdiomStrings
import Derived.Lib.Strings
set_option linter.unusedVariables false
set_option linter.unusedSimpArgs false
namespace Go.Proofs.Ytmggbljkehclpaa
open Go.RowKit
theorem o0p : (Try.prog.info? 5).map (·.size) = some 1 := by kernel_rfl
theorem b0v : (Try.prog.info? 5).map (fun i => (i.zero, i.size, i.bytes)) = some (some (.int .u8 0), 1, 1) := by kernel_rfl
def bv (x : UInt8) : Value := .int .u8 x.toNat
theorem p0c (l : List UInt8) : ∀ v ∈ l.map bv, v.oneCell' = true := by
 intro v hv; obtain ⟨x, _, rfl⟩ := List.mem_map.1 hv; rfl
def World.blockAt (w : World) (g : Nat) (t : TypeId) (n : Nat) : Prop := ∃ C : Array Value, w.heap[g]? = some (.cells C t (0, 0)) ∧ C.size = n
theorem World.blockAt.lt {w : World} {g t n : Nat} (h : World.blockAt w g t n) : g < w.heap.size := by obtain ⟨C, h, _⟩ := h; exact lt_of_block h
theorem World.blockAt.there {w : World} {g t n : Nat} (h : World.blockAt w g t n) (o m : Nat) (hm : o + m ≤ n) : w.there g o m := by
 obtain ⟨C, h, hn⟩ := h
 intro j hj
 refine ⟨?_, ?_⟩
 ·simp [World.cell?, h]; omega
 ·simp [World.frozen?, h]
theorem World.blockAt.keep {F : Nat → Prop} {w w' : World} {g t n : Nat} (h : World.blockAt w g t n) (k : a03 F w w') (hF : ¬ F g) : World.blockAt w' g t n := by
 have hl := h.lt
 obtain ⟨C, h, hn⟩ := h
 exact ⟨C, by rw [k.block g hl hF]; exact h, hn⟩
def a0b (w : World) (v : Value) (x : List UInt8) : Prop :=
 ∃ p c, v = .slice p x.length c ∧ (p = none → c = 0) ∧ x.length ≤ c ∧ (0 < x.length → ∃ b o, p = some ⟨b, o, none⟩ ∧ w.rangeAt b o (x.map bv))
theorem a0b.keepF {F : Nat → Prop} {w w' : World} {v : Value} {x : List UInt8} (h : a0b w v x) (k : a03 F w w') (hF : 0 < x.length → ∀ i, v.ownBlock = some i → ¬ F i) : a0b w' v x := by
 obtain ⟨p, c, rfl, hp, hc, h⟩ := h
 exact ⟨p, c, rfl, hp, hc, fun h0 => by obtain ⟨b, o, rfl, hr⟩ := h h0; exact ⟨b, o, rfl, k.rangeAt hr (hF h0 b rfl)⟩⟩
theorem a0b.keep {w w' : World} {v : Value} {x : List UInt8} (h : a0b w v x) (k : a03 (fun _ => False) w w') : a0b w' v x := h.keepF k (fun _ _ _ f => f)
theorem a0b.of {w : World} {g o n c : Nat} {x : List UInt8} (hn : x.length = n) (hc : n ≤ c) (h : w.rangeAt g o (x.map bv)) : a0b w (.slice (some ⟨g, o, none⟩) n c) x :=
 ⟨some ⟨g, o, none⟩, c, by rw [hn], (fun h => nomatch h), by omega, fun _ => ⟨g, o, rfl, h⟩⟩
theorem d06 {w : World} {g o : Nat} {x : List UInt8} (h : w.rangeAt g o (x.map bv)) (i n : Nat) : w.rangeAt g (o + i) (((x.drop i).take n).map bv) := fun j u hu => by
 rw [List.map_take, List.getElem?_take] at hu
 split at hu
 ·rw [List.map_drop, List.getElem?_drop] at hu
  have := h (i + j) u hu
  rw [Nat.add_assoc]; exact this
 ·cases hu
def h0u (x : List UInt8) (i : Nat) (l : List UInt8) : List UInt8 := x.take i ++ l ++ x.drop (i + l.length)
theorem r06 (x : List UInt8) (i : Nat) (l : List UInt8) (h : i + l.length ≤ x.length) : (h0u x i l).length = x.length := by
 unfold h0u; simp; omega
theorem r05 (x : List UInt8) (i : Nat) : h0u x i [] = x := by unfold h0u; simp
theorem m0x (x : List UInt8) (i : Nat) (l : List UInt8) (h : i + l.length ≤ x.length) (j : Nat) : (h0u x i l)[j]? = if i ≤ j ∧ j < i + l.length then l[j - i]? else x[j]? := by
 unfold h0u
 rw [List.append_assoc, List.getElem?_append, List.getElem?_append, List.getElem?_take, List.getElem?_drop]
 have h1 : (x.take i).length = i := by simp; omega
 rw [h1]
 by_cases hj : j < i
 ·rw [if_pos hj, if_pos hj, if_neg (by omega)]
 ·rw [if_neg hj]
  by_cases hj2 : j - i < l.length
  ·rw [if_pos hj2, if_pos (by omega)]
  ·rw [if_neg hj2, if_neg (by omega)]; congr 1; omega
def be : Nat → Nat → List UInt8
 | 0, _ => []
 | k + 1, n => UInt8.ofNat (n / 256 ^ k) :: be k n
theorem a08 (k n : Nat) : (be k n).length = k := by
 induction k with
 | zero => rfl
 | succ k ih => simp [be, ih]
def a0d (l : List UInt8) : Nat := l.foldl (fun n c => n * 256 + c.toNat) 0
def f0w (w : World) (g : Nat) (x : List UInt8) : Prop := w.heap[g]? = some (.cells (x.map bv).toArray 5 (0, 0))
theorem f0w.lt {w : World} {g : Nat} {x : List UInt8} (h : f0w w g x) : g < w.heap.size := lt_of_block h
theorem f0w.range {w : World} {g : Nat} {x : List UInt8} (h : f0w w g x) : w.rangeAt g 0 (x.map bv) := fun j u hu => by
 have h : w.heap[g]? = _ := h
 simp [World.cell?, h]; simpa using hu
theorem f0w.there {w : World} {g : Nat} {x : List UInt8} (h : f0w w g x) (o n : Nat) (hn : o + n ≤ x.length) : w.there g o n :=
 World.blockAt.there (t := 5) (n := x.length) ⟨_, h, by simp⟩ o n hn
theorem f0w.set {w : World} {g : Nat} {x : List UInt8} (h : f0w w g x) (i : Nat) (b : UInt8) : f0w (w.setCell ⟨g, i, none⟩ (bv b)) g (x.set i b) := by
 unfold f0w
 rw [j0q h]
 simp
theorem f0w.sets {g : Nat} : ∀ (l : List UInt8) (o : Nat) (x : List UInt8) (w : World), f0w w g x → o + l.length ≤ x.length → f0w (w.setCells g o (l.map bv)) g (h0u x o l)
 | [], o, x, w, h, _ => by rw [r05]; exact h
 | b :: l, o, x, w, h, hl => by
  simp only [List.length_cons] at hl
  have h1 := f0w.sets l (o + 1) (x.set o b) (w.setCell ⟨g, o, none⟩ (bv b)) (h.set o b) (by simp; omega)
  have e : h0u (x.set o b) (o + 1) l = h0u x o (b :: l) := by
   apply List.ext_getElem?
   intro j
   rw [m0x _ _ _ (by simp; omega), m0x _ _ _ (by simp; omega)]
   simp only [List.length_cons]
   by_cases hj : o ≤ j ∧ j < o + (l.length + 1)
   ·rw [if_pos hj]
    by_cases hj2 : o = j
    ·subst hj2; rw [if_neg (by omega), List.getElem?_set, if_pos rfl, if_pos (by omega)]; simp
    ·rw [if_pos (by omega), show j - o = (j - (o + 1)) + 1 by omega]; simp
   ·rw [if_neg hj, if_neg (by omega), List.getElem?_set, if_neg (by omega)]
  rw [e] at h1
  exact h1
def Laid (g o : Nat) (x l : List UInt8) (w w' : World) : Prop := f0w w' g (h0u x o l) ∧ a03 (fun k => k = g) w w'
theorem p0d (m : Nat) : Value.int .u8 ((m : Int) % 256) = bv (UInt8.ofNat m) := by
 unfold bv; congr 1
theorem o0i (l : List UInt8) : ∀ n : Nat, l.foldl (fun n c => n * 256 + c.toNat) n = n * 256 ^ l.length + a0d l := by
 unfold a0d
 induction l with
 | nil => intro n; simp
 | cons c l ih =>
  intro n
  rw [List.foldl_cons, List.foldl_cons, ih, ih (0 * 256 + c.toNat), List.length_cons, Nat.pow_succ]
  rw [Nat.add_mul, Nat.zero_mul, Nat.zero_add, Nat.mul_assoc, Nat.mul_comm 256]; omega
theorem j07 (c : UInt8) (l : List UInt8) : a0d (c :: l) = c.toNat * 256 ^ l.length + a0d l := by
 show l.foldl (fun n c => n * 256 + c.toNat) (0 * 256 + c.toNat) = _
 rw [o0i]; simp
theorem j06 (l : List UInt8) (c : UInt8) : a0d (l ++ [c]) = a0d l * 256 + c.toNat := by unfold a0d; rw [List.foldl_append]; rfl
theorem f0f (l : List UInt8) : a0d l < 256 ^ l.length := by
 induction l with
 | nil => simp [a0d]
 | cons c l ih =>
  rw [j07, List.length_cons, Nat.pow_succ]
  have := c.toNat_lt
  have h2 : c.toNat * 256 ^ l.length ≤ 255 * 256 ^ l.length := Nat.mul_le_mul_right _ (by omega)
  omega
theorem b07 (k n : Nat) : a0d (be k n) = n % 256 ^ k := by
 induction k with
 | zero => simp [be, a0d, Nat.mod_one]
 | succ k ih =>
  rw [be, j07, a08, ih]
  have e : (UInt8.ofNat (n / 256 ^ k)).toNat = n / 256 ^ k % 256 := by simp
  rw [e, Nat.pow_succ, Nat.mod_mul, Nat.mul_comm]; omega
theorem m08 (l : List UInt8) : be l.length (a0d l) = l := by
 suffices h : ∀ (l : List UInt8) (m : Nat), be l.length (m * 256 ^ l.length + a0d l) = l by simpa using h l 0
 intro l
 induction l with
 | nil => intro m; rfl
 | cons c l ih =>
  intro m
  have hb := f0f l
  have hp : 0 < 256 ^ l.length := Nat.pow_pos (by omega)
  rw [List.length_cons, be, j07]
  have e1 : m * 256 ^ (l.length + 1) + (c.toNat * 256 ^ l.length + a0d l) = (m * 256 + c.toNat) * 256 ^ l.length + a0d l := by
   rw [Nat.pow_succ, Nat.add_mul, Nat.mul_assoc, Nat.mul_comm (256 ^ l.length)]; omega
  rw [e1, ih (m * 256 + c.toNat)]
  have e2 : ((m * 256 + c.toNat) * 256 ^ l.length + a0d l) / 256 ^ l.length = m * 256 + c.toNat := by
   rw [Nat.add_comm, Nat.add_mul_div_right _ _ hp, Nat.div_eq_of_lt hb]; omega
  rw [e2]
  congr 1
  apply UInt8.toNat_inj.mp
  have := c.toNat_lt
  simp
theorem r08 (m : Nat) (c : UInt8) : (m * 256) ||| c.toNat = m * 256 + c.toNat := by
 have h := Nat.two_pow_add_eq_or_of_lt (i := 8) (b := c.toNat) c.toNat_lt m
 rw [show (2 : Nat) ^ 8 * m = m * 256 by omega] at h
 exact h.symm
def e01 (n : Nat) : List UInt8 := List.replicate n 0
theorem f04 (n : Nat) : (e01 n).length = n := by unfold e01; simp
theorem g0o {w w1 : World} {n : Nat} (ho : w1.ownsRow 0 5 1 (.slice (some ⟨w.heap.size, 0, none⟩) n n) n (madeCells (Value.int .u8 0).cells (n * 1)).toList) : f0w w1 w.heap.size (e01 n) := by
 rcases ho.2 with ⟨h, _⟩ | ⟨g, cap, cur, he, _, hg, _, _, hcs, ht⟩
 ·cases h
 ·injection he with h1 h2 h3
  injection h1 with h1
  injection h1 with h1
  subst h1; subst h3
  unfold f0w
  rw [hg]
  have e : cur.toList = (e01 n).map bv := by
   have hm : (madeCells (Value.int .u8 0).cells (n * 1)).toList = (e01 n).map bv := by
    rw [Nat.mul_one]; unfold e01; rw [List.map_replicate]; exact toList_madeCells_one (.int .u8 0) n
   rw [hm] at ht
   rw [← ht, List.take_of_length_le]
   rw [Array.length_toList, hcs]; omega
  rw [← e]
theorem a03.laid {a w w' : World} {g o : Nat} {x l : List UInt8} (k : a03 (fun _ => False) a w) (h : Laid g o x l w w') (hg : a.heap.size ≤ g) : a03 (fun _ => False) a w' := k.trans' h.2 (fun i e => .inr (by rw [e]; exact hg))
theorem f0d (g o c : Nat) (l : List UInt8) (W : World) (h : W.rangeAt g o (l.map bv)) : (convert 31 9 (.slice (some ⟨g, o, none⟩) l.length c)).run Try.prog W = .ok (.string ⟨l.toArray⟩) W :=
 run_convert_bytes_back W 31 9 5 ⟨g, o, none⟩ c l Try.underlying31 Try.underlying5 Try.underlying9 (fun j hj => by
  rw [Addr.add_mid]; have := h j (.int .u8 (l[j].toNat)) (by simp [hj, bv]); exact this)
theorem p09 (W : World) : (convert 31 9 (.slice none 0 0)).run Try.prog W = .ok (.string ⟨#[]⟩) W := by
 rw [run_convert_bytes_string W 31 9 5 none 0 0 Try.underlying31 Try.underlying5 Try.underlying9]; rfl
theorem c0a {W : World} {v : Value} {x : List UInt8} (h : a0b W v x) (h0 : 0 < x.length) : (convert 31 9 v).run Try.prog W = .ok (.string ⟨x.toArray⟩) W := by
 obtain ⟨p, c, rfl, -, -, h⟩ := h
 obtain ⟨g, o, rfl, hr⟩ := h h0
 exact f0d g o c _ W hr
theorem p0v (w : World) : (w.alloc (.cells #[] 5)).ownsRow 0 5 1 (.slice (some ⟨w.heap.size, 0, none⟩) 0 0) 0 [] :=
 ⟨rfl, .inr ⟨w.heap.size, 0, #[], rfl, Nat.zero_le _, heap_alloc_last w _, Nat.le_refl _, Nat.zero_le _, rfl, rfl⟩⟩
theorem p0w {w : World} {p : Option Addr} {n c : Nat} {x : List UInt8} (h : w.ownsRow 0 5 1 (.slice p n c) n (x.map bv)) : a0b w (.slice p n c) x := by
 have hl : x.length = n := by have := h.1; simpa using this
 subst hl
 rcases h.2 with ⟨e, h2⟩ | ⟨g, cap, cur, he, _, _, hle, _⟩
 ·injection e with e1 e2 e3; subst e1; subst e3
  exact ⟨none, 0, rfl, fun _ => rfl, by omega, fun h0 => by omega⟩
 ·injection he with e1 e2 e3
  subst e1; subst e3
  refine ⟨_, _, rfl, fun h => (by cases h), hle, fun h0 => ⟨g, 0, rfl, fun j u hu => ?_⟩⟩
  have := h.cells (g := g) rfl j u hu
  rw [Addr.add_mid] at this
  exact this
def OwnB (w0 w : World) (v : Value) (xs : List UInt8) : Prop :=
 w.ownsRow 0 5 1 v xs.length (xs.map bv) ∧ (∀ k, v.ownBlock = some k → w0.heap.size ≤ k) ∧ w0.heap.size ≤ w.heap.size
theorem OwnB.nil (w0 w : World) (h : w0.heap.size ≤ w.heap.size) : OwnB w0 w (.slice none 0 0) [] := ⟨⟨rfl, .inl ⟨rfl, rfl⟩⟩, by simp [Value.ownBlock], h⟩
theorem OwnB.slice {w0 w : World} {v : Value} {xs : List UInt8} (h : OwnB w0 w v xs) : ∃ p c, v = .slice p xs.length c := b0c h.1
theorem OwnB.bytes {w0 w : World} {v : Value} {xs : List UInt8} (h : OwnB w0 w v xs) : a0b w v xs := by
 obtain ⟨p, c, rfl⟩ := h.slice
 exact p0w h.1
theorem OwnB.keep {F : Nat → Prop} {w0 w w' : World} {v : Value} {xs : List UInt8} (h : OwnB w0 w v xs) (k : a03 F w w') (hF : ∀ i, v.ownBlock = some i → ¬ F i) : OwnB w0 w' v xs :=
 ⟨k.ownsRow h.1 hF, h.2.1, Nat.le_trans h.2.2 k.size⟩
theorem OwnB.older {w0 w1 w : World} {v : Value} {xs : List UInt8} (h : OwnB w1 w v xs) (hs : w0.heap.size ≤ w1.heap.size) : OwnB w0 w v xs := ⟨h.1, fun k e => Nat.le_trans hs (h.2.1 k e), Nat.le_trans hs h.2.2⟩
theorem OwnB.empty (w0 w : World) (h : w0.heap.size ≤ w.heap.size) : OwnB w0 (w.alloc (.cells #[] 5)) (.slice (some ⟨w.heap.size, 0, none⟩) 0 0) [] :=
 ⟨p0v w, fun k e => by simp only [Value.ownBlock, Option.some.injEq] at e; omega, by simp; omega⟩
theorem OwnB.new (w0 w : World) (h : w0.heap.size ≤ w.heap.size) (l : List UInt8) {n : Nat} (hn : l.length = n) (hm : n ≤ maxLen) : OwnB w0 (w.alloc (.cells (l.map bv).toArray 5)) (.slice (some ⟨w.heap.size, 0, none⟩) n n) l := by
 subst hn
 refine ⟨⟨by simp, .inr ⟨w.heap.size, l.length, (l.map bv).toArray, rfl, Nat.zero_le _, heap_alloc_last w _, Nat.le_refl _, hm, by simp, ?_⟩⟩, fun k e => by simp only [Value.ownBlock, Option.some.injEq] at e; omega, by simp; omega⟩
 rw [List.take_of_length_le (by simp)]
structure d09 (w : World) (v : Value) (p : Option Addr) (n c : Nat) (w' : World) : Prop where
 k : a03 (fun k => v.ownBlock = some k) w w'
 s : ∀ k, (Value.slice p n c).ownBlock = some k → v.ownBlock = some k ∨ w.heap.size ≤ k
theorem a0h {P : Program} {w : World} {ops : Array Oper} {rest : List Oper} {o : Oper} {a : Act} {Q : Exit → Act → World → Prop} (hgd : o.guard = none) (s x : Operand) (t : TypeId)
 (ho : o.op = .call { callee := .builtin .append, args := #[s, x], argTypes := #[t, t] })
 (i : TypeInfo) (ht : P.underlying t = some (.slice 5)) (hi : P.info? 5 = some i) (hz : i.zero = some (.int .u8 0)) (hsize : i.size = 1) (hby : i.bytes = 1)
 (w0 : World) (v : Value) (xs : List UInt8) (hs : a.eval s = v) (hown : OwnB w0 w v xs) (sv : Value) (hx : a.eval x = sv) (l : List UInt8) (hl : a0b w sv l) (hsz : xs.length + l.length ≤ 70368744177664)
 (h : ∀ p c w', Hid (OwnB w0 w' (.slice p (xs.length + l.length) c) (xs ++ l)) → Hid (d09 w v p (xs.length + l.length) c w') → wpList P ops Q rest (a.put o.dst (.slice p (xs.length + l.length) c)) w') : wpList P ops Q (o :: rest) a w := by
 obtain ⟨sp, sc, rfl, hp, -, hlr⟩ := hl
 cases sp with
 | none =>
  have h0 : l.length = 0 := by
   rcases Nat.eq_zero_or_pos l.length with h | h
   ·exact h
   ·obtain ⟨b, o, e, _⟩ := hlr h; cases e
  have hc := hp rfl
  subst hc
  have hl0 : l = [] := List.length_eq_zero_iff.1 h0
  subst hl0
  obtain ⟨p, c, rfl⟩ := hown.slice
  refine wpList_append_own_none hgd s x t ho 0 5 i 1 ht hi _ xs.length (xs.map bv) hs hown.1 hx ?_
  exact h p c w (Hi (by simpa using hown)) (Hi ⟨a03.refl _ _, fun k e => .inl e⟩)
 | some ad =>
  refine f0k hgd s x t ho 5 i (.int .u8 0) 1 1 ht hi hz hsize hby rfl (by decide) v xs.length (xs.map bv) hs hown.1 ad l.length sc (l.map bv) hx (by simp) (fun j u hu => ?_) (p0c l) (by unfold maxLen; omega) (by omega) ?_
  ·have h0 : 0 < l.length := by
    have := (List.getElem?_eq_some_iff.1 hu).1; simp at this; omega
   obtain ⟨b, o, e, hr⟩ := hlr h0
   injection e with e; subst e
   rw [Addr.add_mid]; exact hr j u hu
  ·intro p c w' h1 h2 h3
   refine h p c w' (Hi ⟨by simpa using h1, fun k e => ?_, Nat.le_trans hown.2.2 h2.size⟩) (Hi ⟨(a03.refl _ _).grown h2 (fun k e => .inl e), h3.out⟩)
   rcases h3.out k e with e | e
   ·exact hown.2.1 k e
   ·exact Nat.le_trans hown.2.2 e
end Go.Proofs.Ytmggbljkehclpaa
namespace Go.Proofs.Ytmggbljkehclpaa
def f06 (s : Nat) : Nat := if s = 0 then 0 else (s - 1) % 65535 + 1
theorem p0b (s : Nat) : f06 s ≤ 65535 := by unfold f06; split <;> omega
theorem k0h {s : Nat} (h : s ≤ 65535) : f06 s = s := by unfold f06; split <;> omega
theorem l0i {s : Nat} (h : 65536 ≤ s) : f06 (s % 65536 + s / 65536) = f06 s := by unfold f06; split <;> split <;> omega
theorem r0r (a x : Nat) : f06 (f06 a + x) = f06 (a + x) := by
 unfold f06; split
 ·subst_vars; simp
 ·split <;> split <;> omega
def isum : Bool → List UInt8 → Nat
 | _, [] => 0
 | true, c :: l => c.toNat * 256 + isum false l
 | false, c :: l => c.toNat + isum true l
def par (n : Nat) : Bool := decide (n % 2 = 0)
theorem par_succ (n : Nat) : par (n + 1) = !par n := by unfold par; rw [← decide_not, decide_eq_decide]; omega
theorem i0h (l : List UInt8) : ∀ (b : Bool) (c : UInt8), isum b (l ++ [c]) = isum b l + (if (if par l.length then b else !b) then c.toNat * 256 else c.toNat) := by
 induction l with
 | nil => intro b c; cases b <;> simp [isum, par]
 | cons x l ih =>
  intro b c
  rw [List.length_cons, par_succ]
  cases b
  ·show x.toNat + isum true (l ++ [c]) = x.toNat + isum true l + _
   rw [ih, Nat.add_assoc]; cases par l.length <;> rfl
  ·show x.toNat * 256 + isum false (l ++ [c]) = x.toNat * 256 + isum false l + _
   rw [ih, Nat.add_assoc]; cases par l.length <;> rfl
def inet (l : List UInt8) : Nat := 65535 - f06 (isum true l)
theorem r0e (l : List UInt8) : ∀ b, isum b l ≤ 65280 * l.length := by
 induction l with
 | nil => intro b; cases b <;> simp [isum]
 | cons x l ih =>
  intro b
  have := x.toNat_lt
  cases b
  ·have := ih true; simp only [isum, List.length_cons]; omega
  ·have := ih false; simp only [isum, List.length_cons]; omega
def fl (p : Nat × Nat) (l : List UInt8) : Nat × Nat := l.foldl (fun q x => ((q.1 + x.toNat) % 255, (q.2 + (q.1 + x.toNat) % 255) % 255)) p
theorem i0l (p : Nat × Nat) (l m : List UInt8) : fl p (l ++ m) = fl (fl p l) m := List.foldl_append ..
theorem r0n (p : Nat × Nat) (x : UInt8) (l : List UInt8) : fl p (x :: l) = fl ((p.1 + x.toNat) % 255, (p.2 + (p.1 + x.toNat) % 255) % 255) l := rfl
theorem fl_lt (l : List UInt8) : ∀ p : Nat × Nat, p.1 < 255 → p.2 < 255 → (fl p l).1 < 255 ∧ (fl p l).2 < 255 := by
 induction l with
 | nil => intro p h1 h2; exact ⟨h1, h2⟩
 | cons x l ih => intro p _ _; rw [r0n]; exact ih _ (Nat.mod_lt _ (by omega)) (Nat.mod_lt _ (by omega))
def s0 (l : List UInt8) : Nat := match l with | [] => 0 | x :: l => x.toNat + s0 l
def s1 (l : List UInt8) : Nat := match l with | [] => 0 | x :: l => x.toNat * (l.length + 1) + s1 l
theorem m0l (l m : List UInt8) : s0 (l ++ m) = s0 l + s0 m := by
 induction l with
 | nil => simp [s0]
 | cons x l ih => simp only [List.cons_append, s0, ih]; omega
theorem q0t (l m : List UInt8) : s1 (l ++ m) = s1 l + s0 l * m.length + s1 m := by
 induction l with
 | nil => simp [s0, s1]
 | cons x l ih =>
  simp only [List.cons_append, s0, s1, ih, List.length_append]
  rw [Nat.add_mul (x.toNat), show x.toNat * (l.length + m.length + 1) = x.toNat * (l.length + 1) + x.toNat * m.length by rw [← Nat.mul_add]; congr 1; omega]
  omega
theorem fl_eq (l : List UInt8) : ∀ p : Nat × Nat, p.1 < 255 → p.2 < 255 → fl p l = ((p.1 + s0 l) % 255, (p.2 + p.1 * l.length + s1 l) % 255) := by
 induction l with
 | nil => intro p h1 h2; simp [fl, s0, s1]; ext <;> simp <;> omega
 | cons x l ih =>
  intro p h1 h2
  rw [r0n, ih _ (Nat.mod_lt _ (by omega)) (Nat.mod_lt _ (by omega))]
  simp only [s0, s1, List.length_cons]
  refine Prod.ext (by simp only; omega) ?_
  simp only
  generalize s1 l = t
  generalize l.length = n
  generalize hx : x.toNat = y
  obtain ⟨a, b⟩ := p
  simp only at h1 h2 ⊢
  have e : (a + y) % 255 * n % 255 = (a + y) * n % 255 := by rw [Nat.mod_mul_mod]
  have e2 : a * (n + 1) + y * (n + 1) = (a + y) * n + (a + y) := by rw [← Nat.add_mul, Nat.mul_add]; omega
  have e3 : ((b + (a + y) % 255) % 255 + (a + y) % 255 * n + t) % 255 = (b + (a + y) + (a + y) % 255 * n + t) % 255 := by omega
  rw [e3]
  generalize (a + y) % 255 * n = u at *
  generalize (a + y) * n = v at *
  omega
theorem s0_set (l : List UInt8) (c : UInt8) : ∀ i : Nat, (h : i < l.length) → s0 (l.set i c) + l[i].toNat = s0 l + c.toNat := by
 induction l with
 | nil => intro i h; simp at h
 | cons x l ih =>
  intro i h
  cases i with
  | zero => simp only [List.set_cons_zero, s0, List.getElem_cons_zero]; omega
  | succ i =>
   have := ih i (by simpa using h)
   simp only [List.set_cons_succ, s0, List.getElem_cons_succ]; omega
theorem s1_set (l : List UInt8) (c : UInt8) : ∀ i : Nat, (h : i < l.length) → s1 (l.set i c) + l[i].toNat * (l.length - i) = s1 l + c.toNat * (l.length - i) := by
 induction l with
 | nil => intro i h; simp at h
 | cons x l ih =>
  intro i h
  cases i with
  | zero => simp only [List.set_cons_zero, s1, List.getElem_cons_zero, List.length_cons, Nat.sub_zero]; omega
  | succ i =>
   have := ih i (by simpa using h)
   simp only [List.set_cons_succ, s1, List.getElem_cons_succ, List.length_cons, List.length_set]
   rw [show l.length + 1 - (i + 1) = l.length - i by omega]; omega
def b0h (l : List UInt8) : Bool := decide (s0 l % 255 = 0 ∧ s1 l % 255 = 0)
theorem o0h (l : List UInt8) : fl (0, 0) l = (s0 l % 255, s1 l % 255) := by rw [fl_eq _ _ (by decide) (by decide)]; simp
def zed (l : List UInt8) (k : Nat) : List UInt8 := (l.set k 0).set (k + 1) 0
theorem j0s (l : List UInt8) (k : Nat) : (zed l k).length = l.length := by unfold zed; simp
theorem zed_eq {l : List UInt8} {k : Nat} (h : k + 2 ≤ l.length) : l.take k ++ [0, 0] ++ l.drop (k + 2) = zed l k := by
 unfold zed
 apply List.ext_getElem?
 intro j
 have h1 : (l.take k).length = k := by simp; omega
 rw [List.append_assoc, List.getElem?_append, h1, List.getElem?_set, List.getElem?_set, List.getElem?_take]
 simp only [List.length_set]
 by_cases a : j < k
 ·rw [if_pos a, if_pos a, if_neg (by omega), if_neg (by omega)]
 ·rw [if_neg a]
  by_cases b : j = k
  ·subst b; rw [if_neg (by omega), if_pos rfl, if_pos (by omega)]; simp
  ·by_cases c : j = k + 1
   ·subst c; rw [if_pos rfl, if_pos (by omega), show k + 1 - k = 1 by omega]; rfl
   ·rw [if_neg (by omega), if_neg (by omega), List.getElem?_append, if_neg (by simp; omega), List.getElem?_drop]; congr 1; simp; omega
theorem n0n {l : List UInt8} {k j : Nat} (h : j < l.length) : (zed l k)[j]'(by rw [j0s]; exact h) = if j = k ∨ j = k + 1 then 0 else l[j] := by
 unfold zed
 rw [List.getElem_set, List.getElem_set]
 by_cases a : k + 1 = j
 ·rw [if_pos a, if_pos (.inr a.symm)]
 ·rw [if_neg a]
  by_cases b : k = j
  ·rw [if_pos b, if_pos (.inl b.symm)]
  ·rw [if_neg b, if_neg (by omega)]
def flX (z : List UInt8) (n k : Nat) : Nat := ((n - k - 1) % 255 * (s0 z % 255) + 255 - s1 z % 255) % 255
def flY (z : List UInt8) (n k : Nat) : Nat := (510 - s0 z % 255 - flX z n k) % 255
theorem k0g (z : List UInt8) (n k : Nat) : flX z n k < 255 := Nat.mod_lt _ (by omega)
theorem n0b (z : List UInt8) (n k : Nat) : flY z n k < 255 := Nat.mod_lt _ (by omega)
theorem r0o {s t q p x : Nat} (hs : s < 255) (ht : t < 255) (hx : x < 255) (hp : p % 255 = (q + 1) % 255) :
 (t + x * p + (510 - s - x) % 255 * q) % 255 = 0 ↔ x = (q * s + 255 - t) % 255 := by
 have h1 : x * p % 255 = (x * q + x) % 255 := by rw [Nat.mul_mod, hp, ← Nat.mul_mod, Nat.mul_add, Nat.mul_one]
 obtain ⟨y, hy⟩ : ∃ y, y = (510 - s - x) % 255 := ⟨_, rfl⟩
 obtain ⟨k, hk⟩ : ∃ k, k = (510 - s - x) / 255 := ⟨_, rfl⟩
 have h2 : y + s + x + 255 * k = 510 := by omega
 rw [← hy]
 have h3 : y * q + s * q + x * q + 255 * (k * q) = 510 * q := by
  have := congrArg (· * q) h2
  simp only [Nat.add_mul] at this
  rw [Nat.mul_assoc] at this
  exact this
 have hqs : q * s = s * q := Nat.mul_comm _ _
 rw [hqs]
 generalize x * p = a at *
 generalize x * q = b at *
 generalize y * q = c at *
 generalize s * q = d at *
 generalize k * q = e at *
 omega
theorem p0l {l : List UInt8} {k : Nat} (h : k + 2 ≤ l.length) (x y : UInt8) (hx : x.toNat = flX (zed l k) l.length k) (hy : y.toNat = flY (zed l k) l.length k) : b0h ((l.set k x).set (k + 1) y) = true := by
 have e : (l.set k x).set (k + 1) y = ((zed l k).set k x).set (k + 1) y := by
  unfold zed
  rw [List.set_comm _ _ (show k + 1 ≠ k by omega), List.set_set, List.set_set]
 have z0 : (zed l k)[k]'(by rw [j0s]; omega) = 0 := by rw [n0n (by omega), if_pos (.inl rfl)]
 have z1 : (zed l k)[k + 1]'(by rw [j0s]; omega) = 0 := by rw [n0n (by omega), if_pos (.inr rfl)]
 have hl := j0s l k
 have a0 := s0_set (zed l k) x k (by omega)
 have a1 := s1_set (zed l k) x k (by omega)
 rw [z0] at a0 a1
 have b0 := s0_set ((zed l k).set k x) y (k + 1) (by simp; omega)
 have b1 := s1_set ((zed l k).set k x) y (k + 1) (by simp; omega)
 rw [List.getElem_set_ne (by omega), z1] at b0 b1
 rw [List.length_set] at b1
 rw [e]
 unfold b0h
 rw [decide_eq_true_eq]
 have hX := hx; have hY := hy
 unfold flY at hY
 rw [← hX] at hY
 have hxl : x.toNat < 255 := by rw [hx]; exact k0g ..
 have hc := (r0o (s := s0 (zed l k) % 255) (t := s1 (zed l k) % 255) (q := (l.length - k - 1) % 255) (p := (l.length - k) % 255) (x := x.toNat) (Nat.mod_lt _ (by omega)) (Nat.mod_lt _ (by omega)) hxl (by omega)).2 hX
 rw [← hY] at hc
 have m1 : x.toNat * ((l.length - k) % 255) % 255 = x.toNat * (l.length - k) % 255 := by rw [Nat.mul_mod_mod]
 have m2 : y.toNat * ((l.length - k - 1) % 255) % 255 = y.toNat * (l.length - k - 1) % 255 := by rw [Nat.mul_mod_mod]
 rw [hl] at a1 b1
 rw [show l.length - (k + 1) = l.length - k - 1 by omega] at b1
 simp only [show (0 : UInt8).toNat = 0 from rfl, Nat.zero_mul, Nat.add_zero] at a0 a1 b0 b1
 rw [b0, b1, a0, a1]
 constructor
 ·omega
 ·generalize x.toNat * ((l.length - k) % 255) = u at *
  generalize y.toNat * ((l.length - k - 1) % 255) = v at *
  generalize x.toNat * (l.length - k) = u' at *
  generalize y.toNat * (l.length - k - 1) = v' at *
  omega
def tsum (z : List UInt8) (i : Nat) : Nat := s1 (z.take i) + s0 (z.take i) * (z.length - i)
theorem q0n (z : List UInt8) : tsum z 0 = 0 := by simp [tsum, s0, s1]
theorem tsum_all (z : List UInt8) : tsum z z.length = s1 z := by simp [tsum]
theorem q0o (z : List UInt8) (i : Nat) (h : i < z.length) : tsum z (i + 1) = tsum z i + z[i].toNat * (z.length - i) := by
 unfold tsum
 rw [List.take_succ_eq_append_getElem h, q0t, m0l]
 simp only [s0, s1, List.length_cons, List.length_nil, Nat.add_zero, Nat.zero_add, Nat.mul_one]
 obtain ⟨m, hm⟩ : ∃ m, z.length - i = m + 1 := ⟨z.length - i - 1, by omega⟩
 rw [hm, show z.length - (i + 1) = m by omega, Nat.add_mul, Nat.mul_add, Nat.mul_add]; omega
theorem s0_snoc (z : List UInt8) (i : Nat) (h : i < z.length) : s0 (z.take (i + 1)) = s0 (z.take i) + z[i].toNat := by
 rw [List.take_succ_eq_append_getElem h, m0l]; simp [s0]
end Go.Proofs.Ytmggbljkehclpaa
namespace Go.Proofs.Ytmggbljkehclpaa
open Go.RowKit
theorem ret_int {k : IntKind} {a b : Int} (h : a = b) : Ending.returned (.int k a) = .returned (.int k b) := by rw [h]
theorem l0o {k : IntKind} {a b c d : Int} (h : a = c) (h2 : b = d) : Ending.returned (.tuple #[.int k a, .int k b]) = .returned (.tuple #[.int k c, .int k d]) := by rw [h, h2]
theorem a0k {w : World} {g o : Nat} {l : List UInt8} (h : w.rangeAt g o (l.map bv)) (k : Nat) (hk : k < l.length) : w.cell? ⟨g, o + k, none⟩ = some (.int .u8 (l[k]).toNat) := h k _ (by simp [hk, bv])
theorem k0v (c0 c1 : Nat) (h0 : c0 < 255) (h1 : c1 < 255) (sl : Value) (l : List UInt8) (hl : l.length ≤ 9223372036854775807) (w : World) (h : Hid (a0b w sl l)) :
 Calls Try.prog 80 #[.int .i64 c0, .int .i64 c1, sl] w fun e w' => e = .returned (.tuple #[.int .i64 ((fl (c0, c1) l).1 : Nat), .int .i64 ((fl (c0, c1) l).2 : Nat)]) ∧ w = w' := by
 obtain ⟨p, c, rfl, -, -, hb⟩ := h.out
 have hb' := Hi hb; clear hb h
 go_enter Try.func80, Try.ntmps80
 go_wp2
 go_loop [0, 1, 12] (fun a b iv => ∃ k : Nat, k ≤ l.length ∧ a = .int .i64 ((fl (c0, c1) (l.take k)).1 : Nat) ∧ b = .int .i64 ((fl (c0, c1) (l.take k)).2 : Nat) ∧ iv = .int .i64 k) (fun _ _ iv => l.length - (intOf iv).toNat)
 case atStart => exact ⟨0, by omega, rfl, rfl, rfl⟩
 case round =>
  obtain ⟨k, hk, rfl, rfl, rfl⟩ := hrel
  by_cases hlk : k < l.length
  ·obtain ⟨g, o, rfl, hr⟩ := hb'.out (by omega)
   have hc := a0k hr k hlk
   have hx := (l[k]).toNat_lt
   obtain ⟨q, hq⟩ : ∃ q, q = fl (c0, c1) (l.take k) := ⟨_, rfl⟩
   have hlt := fl_lt (l.take k) (c0, c1) h0 h1
   have hs : fl (c0, c1) (l.take (k + 1)) = ((q.1 + (l[k]).toNat) % 255, (q.2 + (q.1 + (l[k]).toNat) % 255) % 255) := by
    rw [List.take_succ_eq_append_getElem hlk, i0l, ← hq]; rfl
   rw [← hq] at hlt ⊢
   obtain ⟨q1, q2⟩ := q
   obtain ⟨hl1, hl2⟩ := hlt
   simp only at hl1 hl2 hs ⊢
   have hs' := Hi hs; have hq' := Hi hq; clear hs hr hq
   go_wp2
   go_round
   case rel => exact ⟨k + 1, by omega, by rw [hs'.out]; go_num, by rw [hs'.out]; go_num, by go_num⟩
   case measure => simp [intOf]; omega
  ·obtain rfl : k = l.length := by omega
   rw [List.take_length]
   go_wp2
   go_ret2
   exact ⟨rfl, rfl⟩
theorem n0s (sl : Value) (l : List UInt8) (hl : l.length ≤ 9223372036854775807) (w : World) (h : Hid (a0b w sl l)) :
 Calls Try.prog 74 #[sl] w fun e w' => e = .returned (.bool (b0h l)) ∧ w = w' := by
 have hf := o0h l
 have hr : b0h l = decide ((fl (0, 0) l).1 = 0 ∧ (fl (0, 0) l).2 = 0) := by rw [hf]; rfl
 obtain ⟨q, hq⟩ : ∃ q, q = fl (0, 0) l := ⟨_, rfl⟩
 have hG := k0v 0 0 (by omega) (by omega) sl l hl w h
 rw [← hq] at hr hG
 rw [hr]
 have hG' := Hi hG
 obtain ⟨q1, q2⟩ := q
 clear hf hr hq hG
 by_cases a : q1 = 0
 ·by_cases b : q2 = 0
  ·subst a; subst b
   go_enter Try.func74, Try.ntmps74
   go_wp2_with (go_at_call 80; refine hG'.out.mono ?_; rintro e w' ⟨rfl, rfl⟩)
   go_ret
   exact ⟨rfl, rfl⟩
  ·have e1 : ((q2 : Int) == 0) = false := by rw [beq_eq_false_iff_ne]; omega
   have hz : decide (q1 = 0 ∧ q2 = 0) = false := by simp [b]
   subst a
   rw [show decide ((0, q2).1 = 0 ∧ (0, q2).2 = 0) = false from hz]
   clear hz b
   go_enter Try.func74, Try.ntmps74
   go_wp2_with (go_at_call 80; refine hG'.out.mono ?_; rintro e w' ⟨rfl, rfl⟩)
   go_ret
   exact ⟨rfl, rfl⟩
 ·have e1 : ((q1 : Int) == 0) = false := by rw [beq_eq_false_iff_ne]; omega
  have hz : decide (q1 = 0 ∧ q2 = 0) = false := by simp [a]
  rw [show decide ((q1, q2).1 = 0 ∧ (q1, q2).2 = 0) = false from hz]
  clear hz a
  go_enter Try.func74, Try.ntmps74
  go_wp2_with (go_at_call 80; refine hG'.out.mono ?_; rintro e w' ⟨rfl, rfl⟩)
  go_ret
  exact ⟨rfl, rfl⟩
theorem e0l (m : Nat) : bv (UInt8.ofNat m) = .int .u8 ((m : Int) % 256) := (p0d m).symm
theorem be2 (n : Nat) : be 2 n = [UInt8.ofNat (n / 256), UInt8.ofNat n] := by simp [be]
theorem be4 (n : Nat) : be 4 n = [UInt8.ofNat (n / 16777216), UInt8.ofNat (n / 65536), UInt8.ofNat (n / 256), UInt8.ofNat n] := by simp [be]
theorem d09.trans {w wr w2 : World} {v : Value} {q q2 : Option Addr} {n n2 d d2 : Nat} (h : d09 w v q n d wr) (g : d09 wr (.slice q n d) q2 n2 d2 w2) : d09 w v q2 n2 d2 w2 :=
 ⟨h.k.trans' g.k (fun i e => h.s i e), fun k e => by
  rcases g.s k e with e | e
  ·exact h.s k e
  ·exact .inr (Nat.le_trans h.k.size e)⟩
theorem l05 {w0 w : World} {v : Value} {xs : List UInt8} (h : OwnB w0 w v xs) (k : Nat) (e : v.ownBlock = some k) : k < w.heap.size := by
 rcases h.1.2 with ⟨rfl, _⟩ | ⟨g, cap, cur, rfl, _, hg, _⟩
 ·simp [Value.ownBlock] at e
 ·simp only [Value.ownBlock, Option.some.injEq] at e; subst e; exact lt_of_block hg
def m0a (w0 : World) (v : Value) (xs l : List UInt8) (w : World) (e : Ending) (w' : World) : Prop :=
 ∃ p c, e = .returned (.slice p (xs.length + l.length) c) ∧ OwnB w0 w' (.slice p (xs.length + l.length) c) (xs ++ l) ∧ d09 w v p (xs.length + l.length) c w'
set_option maxRecDepth 100000 in
theorem c0n (w0 : World) (v : Value) (xs : List UInt8) (n : Nat) (hn : n < 65536) (hx : xs.length ≤ 1000000) (w : World) (h : Hid (OwnB w0 w v xs)) :
 Calls Try.prog 17 #[v, .int .u16 n] w (m0a w0 v xs (be 2 n) w) := by
 obtain ⟨i0, hi0, hz0, hz1, hz2⟩ := info_parts b0v
 have hsrc : Hid (a0b (w.alloc (.cells #[.int .u8 ((n : Int) / 256), .int .u8 ((n : Int) % 256)] 5)) (.slice (some ⟨w.heap.size, 0, none⟩) 2 2) (be 2 n)) := Hi (by
  have := (OwnB.new w w (Nat.le_refl _) (be 2 n) (n := 2) rfl (by unfold maxLen; omega)).bytes
  rw [be2, List.map_cons, List.map_cons, List.map_nil, e0l, e0l, show ((n / 256 : Nat) : Int) % 256 = (n : Int) / 256 by omega] at this
  rw [be2]; exact this)
 have hO := Hi (h.out.keep ((a03.refl (fun _ => False) _).alloc (.cells #[.int .u8 ((n : Int) / 256), .int .u8 ((n : Int) % 256)] 5)) (fun _ _ f => f))
 have hb := Hi (a08 2 n)
 obtain ⟨pv, cv, rfl⟩ := h.out.slice
 go_enter Try.func17, Try.ntmps17
 go_wp2_with ((with_reducible refine a0a 12 ?_); refine a0h rfl (.tmp 5) (.tmp 11) 31 rfl i0 Try.underlying31 hi0 hz0 hz1 hz2 w0 _ xs rfl hO.out _ rfl (be 2 n) hsrc.out (by rw [hb.out]; omega) ?_; intro q d w1 hO1 hG1)
 go_ret
 exact ⟨q, d, rfl, hO1.out, ((a03.refl _ _).alloc _).trans' hG1.out.k (fun i e => .inl e), fun k e => (hG1.out.s k e).imp id (fun h => by simp at h; omega)⟩
set_option maxRecDepth 100000 in
theorem e0y (w0 : World) (v : Value) (xs : List UInt8) (n : Nat) (hn : n < 4294967296) (hx : xs.length ≤ 1000000) (w : World) (h : Hid (OwnB w0 w v xs)) :
 Calls Try.prog 47 #[v, .int .u32 n] w (m0a w0 v xs (be 4 n) w) := by
 obtain ⟨i0, hi0, hz0, hz1, hz2⟩ := info_parts b0v
 have hsrc : Hid (a0b (w.alloc (.cells #[.int .u8 ((n : Int) / 16777216), .int .u8 ((n : Int) / 65536 % 256), .int .u8 ((n : Int) / 256 % 256), .int .u8 ((n : Int) % 256)] 5)) (.slice (some ⟨w.heap.size, 0, none⟩) 4 4) (be 4 n)) := Hi (by
  have := (OwnB.new w w (Nat.le_refl _) (be 4 n) (n := 4) rfl (by unfold maxLen; omega)).bytes
  rw [be4, List.map_cons, List.map_cons, List.map_cons, List.map_cons, List.map_nil, e0l, e0l, e0l, e0l, show ((n / 16777216 : Nat) : Int) % 256 = (n : Int) / 16777216 by omega] at this
  rw [be4]; exact this)
 have hO := Hi (h.out.keep ((a03.refl (fun _ => False) _).alloc (.cells #[.int .u8 ((n : Int) / 16777216), .int .u8 ((n : Int) / 65536 % 256), .int .u8 ((n : Int) / 256 % 256), .int .u8 ((n : Int) % 256)] 5)) (fun _ _ f => f))
 have hb := Hi (a08 4 n)
 obtain ⟨pv, cv, rfl⟩ := h.out.slice
 go_enter Try.func47, Try.ntmps47
 go_wp2_with ((with_reducible refine a0a 18 ?_); refine a0h rfl (.tmp 5) (.tmp 17) 31 rfl i0 Try.underlying31 hi0 hz0 hz1 hz2 w0 _ xs rfl hO.out _ rfl (be 4 n) hsrc.out (by rw [hb.out]; omega) ?_; intro q d w1 hO1 hG1)
 go_ret
 exact ⟨q, d, rfl, hO1.out, ((a03.refl _ _).alloc _).trans' hG1.out.k (fun i e => .inl e), fun k e => (hG1.out.s k e).imp id (fun h => by simp at h; omega)⟩
theorem or_low32 (m : Nat) (c : UInt8) (hm : m * 256 < 4294967296) : bits .or .u32 ((m : Int) * 256) (c.toNat : Int) = ((m * 256 + c.toNat : Nat) : Int) := by
 have hc := c.toNat_lt
 have h := u32_or_nat (m * 256) c.toNat hm (by omega)
 rw [r08, show ((m * 256 : Nat) : Int) = (m : Int) * 256 by omega] at h
 exact h
set_option maxHeartbeats 1000000 in
theorem p0h (sl : Value) (l : List UInt8) (hl : l.length ≤ 4) (w : World) (h : Hid (a0b w sl l)) :
 Calls Try.prog 29 #[sl] w fun e w' => e = .returned (.int .u32 (a0d l : Nat)) ∧ w = w' := by
 obtain ⟨p, c, rfl, -, -, hb⟩ := h.out
 have hb' := Hi hb; clear hb h
 go_enter Try.func29, Try.ntmps29
 go_wp2
 go_loop [3, 8] (fun nv iv => ∃ k : Nat, k ≤ l.length ∧ nv = .int .u32 (a0d (l.take k) : Nat) ∧ iv = .int .i64 k) (fun _ iv => 4 - (intOf iv).toNat)
 case atStart => exact ⟨0, by omega, by simp [a0d], rfl⟩
 case round =>
  obtain ⟨k, hk, rfl, rfl⟩ := hrel
  by_cases hlk : k < l.length
  ·obtain ⟨g, o, rfl, hr⟩ := hb'.out (by omega)
   have hc := a0k hr k hlk
   have hs : a0d (l.take (k + 1)) = a0d (l.take k) * 256 + (l[k]).toNat := by
    rw [List.take_succ_eq_append_getElem (by omega), j06]
   have hs' := Hi hs; clear hs
   have hm : a0d (l.take k) < 16777216 := by
    have h1 := f0f (l.take k)
    have h2 : (l.take k).length ≤ 3 := by simp; omega
    have h3 : 256 ^ (l.take k).length ≤ 256 ^ 3 := Nat.pow_le_pow_right (by omega) h2
    omega
   have hx := (l[k]).toNat_lt
   obtain ⟨m, hmm⟩ : ∃ m, m = a0d (l.take k) := ⟨_, rfl⟩
   rw [← hmm] at hm hs' ⊢
   have ho := or_low32 m l[k] (by omega)
   clear hmm hr
   go_wp2
   exact ⟨⟨k + 1, by omega, by rw [hs'.out]; go_num, by go_num⟩, by simp [intOf]; omega⟩
  ·obtain rfl : k = l.length := by omega
   rw [List.take_length]
   go_wp2
   go_ret
   exact ⟨rfl, rfl⟩
theorem b0f (sl : Value) (l : List UInt8) (n : Nat) (hl : l.length ≤ 4) (w : World) (h : Hid (a0b w sl l)) (hn : Hid (a0d l = n)) :
 Calls Try.prog 29 #[sl] w fun e w' => e = .returned (.int .u32 n) ∧ w = w' := by
 rw [← hn.out]; exact p0h sl l hl w h
def nv (n : Nat) : Value := .int .u32 n
theorem nv_one (l : List Nat) : ∀ v ∈ l.map nv, v.oneCell' = true := by
 intro v hv; obtain ⟨x, _, rfl⟩ := List.mem_map.1 hv; rfl
theorem e07 : (Try.prog.info? 22).map (fun i => (i.zero, i.size, i.bytes)) = some (some (.int .u32 0), 1, 4) := by kernel_rfl
def h0g (ns : List Nat) : Prop := ∀ n ∈ ns, n < 4294967296
def a0x (w : World) (v : Value) (ns : List Nat) : Prop :=
 ∃ p c, v = .slice p ns.length c ∧ (p = none → c = 0) ∧ ns.length ≤ c ∧ (0 < ns.length → ∃ b o, p = some ⟨b, o, none⟩ ∧ w.rangeAt b o (ns.map nv))
theorem a0x.keepF {F : Nat → Prop} {w w' : World} {v : Value} {x : List Nat} (h : a0x w v x) (k : a03 F w w') (hF : 0 < x.length → ∀ i, v.ownBlock = some i → ¬ F i) : a0x w' v x := by
 obtain ⟨p, c, rfl, hp, hc, h⟩ := h
 exact ⟨p, c, rfl, hp, hc, fun h0 => by obtain ⟨b, o, rfl, hr⟩ := h h0; exact ⟨b, o, rfl, k.rangeAt hr (hF h0 b rfl)⟩⟩
theorem a0x.keep {w w' : World} {v : Value} {x : List Nat} (h : a0x w v x) (k : a03 (fun _ => False) w w') : a0x w' v x := h.keepF k (fun _ _ _ f => f)
theorem a0x.nil (w : World) : a0x w (.slice none 0 0) [] := ⟨none, 0, rfl, fun _ => rfl, Nat.le_refl _, fun h => by simp at h⟩
def bes (ns : List Nat) : List UInt8 := ns.flatMap (be 4)
theorem e04 (ns : List Nat) : (bes ns).length = 4 * ns.length := by
 induction ns with
 | nil => rfl
 | cons n ns ih => unfold bes at *; rw [List.flatMap_cons, List.length_append, ih, a08, List.length_cons]; omega
theorem m07 (ns : List Nat) (n : Nat) : bes (ns ++ [n]) = bes ns ++ be 4 n := by unfold bes; simp
set_option maxRecDepth 100000 in
set_option maxHeartbeats 1000000 in
theorem c0w (w0 : World) (v : Value) (xs : List UInt8) (sv : Value) (ns : List Nat) (hs : Hid (h0g ns)) (hx : xs.length + 4 * ns.length ≤ 1000000) (w : World) (h : Hid (OwnB w0 w v xs)) (hn : Hid (a0x w sv ns)) (hsep : Hid (0 < ns.length → ∀ k, sv.ownBlock = some k → v.ownBlock ≠ some k ∧ k < w.heap.size)) :
 Calls Try.prog 18 #[v, sv] w (m0a w0 v xs (bes ns) w) := by
 obtain ⟨pv, cv, rfl⟩ := h.out.slice
 obtain ⟨p, c, rfl, -, -, hb⟩ := hn.out
 have hb' := Hi hb; clear hb
 go_enter Try.func18, Try.ntmps18
 go_wp2
 go_loopw [0, 9] (fun bw iv wr => ∃ k : Nat, k ≤ ns.length ∧ iv = .int .i64 k ∧ Hid (∃ q d, bw = .slice q (xs.length + 4 * k) d ∧ OwnB w0 wr bw (xs ++ bes (ns.take k)) ∧ d09 w (.slice pv xs.length cv) q (xs.length + 4 * k) d wr)) (fun _ iv _ => ns.length - (intOf iv).toNat)
 case atStart => exact ⟨0, by omega, rfl, Hi ⟨pv, cv, rfl, by simpa [bes] using h.out, a03.refl _ _, fun k e => .inl e⟩⟩
 case round =>
  obtain ⟨k, hk, rfl, hrow⟩ := hrel
  obtain ⟨q, d, rfl, hO, hG⟩ := hrow.out
  have hO' := Hi hO; have hG' := Hi hG
  have hlen : (xs ++ bes (ns.take k)).length = xs.length + 4 * k := by rw [List.length_append, e04]; simp; omega
  clear hO hG hrow
  by_cases hlk : k < ns.length
  ·obtain ⟨g, o, rfl, hr⟩ := hb'.out (by omega)
   have hr1 : wr.rangeAt g o (ns.map nv) := hG'.out.k.rangeAt hr (fun e => (hsep.out (by omega) g rfl).1 e)
   have hcell : wr.cell? ⟨g, o + k, none⟩ = some (.int .u32 (ns[k] : Nat)) := hr1 k _ (by simp [hlk, nv])
   have hlt : ns[k] < 4294967296 := hs.out _ (List.getElem_mem hlk)
   have hbs := m07 (ns.take k) ns[k]
   rw [← List.take_succ_eq_append_getElem hlk] at hbs
   have hbs' := Hi hbs; have hlen' := Hi hlen
   clear hr hr1 hbs hlen
   go_wp2_with fail
   refine (e0y w0 _ (xs ++ bes (ns.take k)) ns[k] hlt (by rw [hlen'.out]; omega) _ hO').mono ?_
   rintro e w2 ⟨q2, d2, rfl, hO2, hG2⟩
   rw [hlen'.out, a08] at *
   have hO2' := Hi hO2; have hG2' := Hi hG2
   clear hO2 hG2
   go_wp2_with fail
   exact ⟨⟨k + 1, by omega, by go_num, Hi ⟨q2, d2, by rw [show xs.length + 4 * (k + 1) = xs.length + 4 * k + 4 by omega], by rw [hbs'.out, ← List.append_assoc]; exact hO2'.out, by rw [show xs.length + 4 * (k + 1) = xs.length + 4 * k + 4 by omega]; exact hG'.out.trans hG2'.out⟩⟩, by simp [intOf]; omega⟩
  ·obtain rfl : k = ns.length := by omega
   go_wp2
   go_ret
   have hn2 := e04 ns
   rw [List.take_length] at hO'
   exact ⟨q, d, by rw [hn2]; rfl, by rw [hn2]; exact hO'.out, by rw [hn2]; exact hG'.out⟩
end Go.Proofs.Ytmggbljkehclpaa
