/- Numbers and addresses as texts, plain. -/
import Derived.Test.YtmclnamgihphcaaMP03
import Derived.Lib.ItoaNum
import Derived.Test.YtmclnamgihphcaaMP05
import Derived.Test.YtmclnamgihphcaaMP04
import Derived.Laws.IdiomStrings
import Derived.Lib.Strings
import Derived.Laws.Cover3
import Derived.Laws.AppendOwnNone
import Derived.Deep.DeepCutAuto
import Derived.OwnWalk
set_option linter.unusedVariables false
set_option linter.unusedSimpArgs false
namespace Go.Proofs.Ytmclnamgihphcaa

def digs (n : Nat) : List UInt8 := if n < 10 then [UInt8.ofNat (48 + n)] else digs (n / 10) ++ [UInt8.ofNat (48 + n % 10)]
termination_by n
decreasing_by omega
theorem digs_lt {n : Nat} (h : n < 10) : digs n = [UInt8.ofNat (48 + n)] := by rw [digs, if_pos h]
theorem digs_ge {n : Nat} (h : ¬ n < 10) : digs n = digs (n / 10) ++ [UInt8.ofNat (48 + n % 10)] := by rw [digs, if_neg h]
theorem dig_toNat {n : Nat} (h : n < 10) : (UInt8.ofNat (48 + n)).toNat = 48 + n := by simp; omega
theorem digs_ne (n : Nat) : digs n ≠ [] := by
  by_cases h : n < 10
  · rw [digs_lt h]; simp
  · rw [digs_ge h]; simp
theorem digs_all (k : Nat) : ∀ n, n ≤ k → (digs n).all digB = true := by
  induction k with
  | zero => intro n hn; obtain rfl : n = 0 := by omega
            rw [digs_lt (by omega)]; decide
  | succ k ih =>
    intro n hn
    by_cases h : n < 10
    · rw [digs_lt h]
      simp only [List.all_cons, List.all_nil, Bool.and_true, digB, decide_eq_true_eq, dig_toNat h]; omega
    · rw [digs_ge h, List.all_append, ih (n / 10) (by omega)]
      simp only [List.all_cons, List.all_nil, Bool.and_true, Bool.true_and, digB, decide_eq_true_eq, dig_toNat (show n % 10 < 10 by omega)]; omega
theorem digs_val (k : Nat) : ∀ n, n ≤ k → decVal (digs n) = n := by
  induction k with
  | zero => intro n hn; obtain rfl : n = 0 := by omega
            rw [digs_lt (by omega)]; decide
  | succ k ih =>
    intro n hn
    by_cases h : n < 10
    · rw [digs_lt h]
      show (0 * 10 + ((UInt8.ofNat (48 + n)).toNat - 48)) = n
      rw [dig_toNat h]; omega
    · rw [digs_ge h, decVal_snoc, ih (n / 10) (by omega), dig_toNat (by omega)]; omega
theorem digs_len (d : Nat) : ∀ n, n < 10 ^ d → 0 < d → (digs n).length ≤ d := by
  induction d with
  | zero => intro n _ h; omega
  | succ d ih =>
    intro n hn _
    by_cases h : n < 10
    · rw [digs_lt h]; simp
    · rw [digs_ge h]
      have hd : 0 < d := by
        rcases Nat.eq_zero_or_pos d with rfl | h'
        · simp at hn; omega
        · exact h'
      have := ih (n / 10) (by rw [Nat.pow_succ] at hn; omega) hd
      simp; omega
theorem digs_head (k : Nat) : ∀ n, n ≤ k → 10 ≤ n → (digs n).head? ≠ some 48 := by
  induction k with
  | zero => intro n h1 h2; omega
  | succ k ih =>
    intro n hn h10
    rw [digs_ge (by omega)]
    by_cases h : n / 10 < 10
    · rw [digs_lt h]
      simp only [List.cons_append, List.head?_cons]
      intro e
      injection e with e
      have := congrArg UInt8.toNat e
      rw [dig_toNat h] at this
      have e2 : (48 : UInt8).toNat = 48 := rfl
      omega
    · have := ih (n / 10) (by omega) (by omega)
      cases hd : digs (n / 10) with
      | nil => exact (digs_ne _ hd).elim
      | cons a l => rw [hd] at this; simpa using this
theorem decL_digs_eq {n : Nat} (h : n < 1000000000) : decL (digs n) = some n := by
  have h1 := digs_all n n (Nat.le_refl _)
  have h2 := digs_len 9 n (by omega) (by omega)
  have h3 : 1 ≤ (digs n).length := by
    cases hd : digs n with
    | nil => exact (digs_ne _ hd).elim
    | cons => simp
  have hs : decShape (digs n) = true := by
    unfold decShape
    rw [decide_eq_true_eq]
    refine ⟨h3, h2, fun ⟨a, b⟩ => ?_⟩
    by_cases h10 : n < 10
    · rw [digs_lt h10] at a; simp at a
    · exact digs_head n n (Nat.le_refl _) (by omega) b
  unfold decL
  rw [hs, h1, if_pos (by rfl), digs_val n n (Nat.le_refl _)]
theorem decL_nought (n : Nat) : decL (48 :: digs n) = none := by
  have h3 : 1 ≤ (digs n).length := by
    cases hd : digs n with
    | nil => exact (digs_ne _ hd).elim
    | cons => simp
  have hs : decShape (48 :: digs n) = false := by
    unfold decShape
    rw [decide_eq_false_iff_not]
    rintro ⟨_, _, h⟩
    exact h ⟨by simp; omega, rfl⟩
  unfold decL
  rw [hs, if_neg (by simp)]
theorem decL_plus (n : Nat) : decL (43 :: digs n) = none := by
  unfold decL
  rw [if_neg]
  simp [digB]
theorem digs_not (n : Nat) {c : UInt8} (hc : digB c = false) : c ∉ digs n := by
  intro hm
  have := List.all_eq_true.1 (digs_all n n (Nat.le_refl _)) c hm
  rw [hc] at this; cases this

/-- four numbers with dots between -/
def dottedOf (a b c d : Nat) : List UInt8 := digs a ++ [46] ++ digs b ++ [46] ++ digs c ++ [46] ++ digs d
def dotted (n : Nat) : List UInt8 := dottedOf (n / 16777216 % 256) (n / 65536 % 256) (n / 256 % 256) (n % 256)
theorem before_app {c : UInt8} {p : List UInt8} (h : c ∉ p) (r : List UInt8) : before c (p ++ c :: r) = p.length := by
  induction p with
  | nil => exact before_cons_eq
  | cons b p ih =>
    have hb : b ≠ c := by rintro rfl; exact h (by simp)
    rw [List.cons_append, before_cons_ne hb, ih (fun m => h (by simp [m]))]; simp
theorem partsL_app {c : UInt8} {p : List UInt8} (h : c ∉ p) (r : List UInt8) : partsL c (p ++ c :: r) = p :: partsL c r := by
  rw [partsL_yes (by simp), before_app h]
  simp [List.take_left, ← List.drop_drop]
theorem dotted_parts (a b c d : Nat) (r : List UInt8) : partsL 46 (digs a ++ [46] ++ digs b ++ [46] ++ digs c ++ [46] ++ r) = digs a :: digs b :: digs c :: partsL 46 r := by
  have e : digs a ++ [46] ++ digs b ++ [46] ++ digs c ++ [46] ++ r = digs a ++ 46 :: (digs b ++ 46 :: (digs c ++ 46 :: r)) := by simp
  rw [e, partsL_app (digs_not a (by decide)), partsL_app (digs_not b (by decide)), partsL_app (digs_not c (by decide))]
theorem addrL_dotted {n : Nat} (h : n < 4294967296) : addrL (dotted n) = some n := by
  rw [addrL_eq]
  unfold dotted dottedOf
  rw [dotted_parts _ _ _ 0, partsL_no (digs_not _ (by decide)), if_pos (by simp)]
  simp only [foldParts]
  rw [decL_digs_eq (by omega), decL_digs_eq (by omega), decL_digs_eq (by omega), decL_digs_eq (by omega)]
  simp only
  rw [if_pos (by omega), if_pos (by omega), if_pos (by omega), if_pos (by omega)]
  congr 1; omega
theorem addrL_dot (n : Nat) : addrL (dotted n ++ [46]) = none := by
  rw [addrL_eq]
  unfold dotted dottedOf
  rw [List.append_assoc, dotted_parts _ _ _ 0, partsL_app (digs_not _ (by decide)), if_neg (by simp [partsL])]
theorem slash_dotted (n : Nat) : (47 : UInt8) ∉ dotted n := by
  unfold dotted dottedOf
  simp only [List.mem_append, List.mem_singleton, not_or]
  refine ⟨⟨⟨⟨⟨⟨digs_not _ (by decide), by decide⟩, digs_not _ (by decide)⟩, by decide⟩, digs_not _ (by decide)⟩, by decide⟩, digs_not _ (by decide)⟩
theorem netL_dotted {n l : Nat} (h : n < 4294967296) (h1 : 1 ≤ l) (h2 : l ≤ 32) : netL (dotted n ++ [47] ++ digs l) = some (n, l) := by
  rw [netL_eq, List.append_assoc, List.singleton_append, partsL_app (slash_dotted n), partsL_no (digs_not _ (by decide))]
  simp only [netParts]
  rw [addrL_dotted h, decL_digs_eq (by omega)]
  simp only
  rw [if_pos ⟨h1, h2⟩]
theorem netL_slash (n : Nat) : netL (dotted n ++ [47]) = none := by
  rw [netL_eq, partsL_app (slash_dotted n)]
  simp only [netParts, partsL]
  rw [decL_nil]
  cases addrL (dotted n) <;> rfl
theorem digs_dec (k : Nat) : ∀ n, n ≤ k → Lib.decDigits n = digs n := by
  induction k with
  | zero => intro n hn; obtain rfl : n = 0 := by omega
            rw [digs_lt (by omega), Lib.decDigits_one (by omega)]
  | succ k ih =>
    intro n hn
    by_cases h : n < 10
    · rw [digs_lt h, Lib.decDigits_one h]
    · rw [digs_ge h, Lib.decDigits, dif_neg h, ih (n / 10) (by omega)]
theorem itoa_digs (n : Nat) : Lib.itoa (n : Int) = digs n := by
  unfold Lib.itoa
  rw [if_neg (by omega), Int.toNat_natCast, digs_dec n n (Nat.le_refl _)]
end Go.Proofs.Ytmclnamgihphcaa
/- A line set, plain; the sixty-four lines of ConfFull. -/
set_option linter.unusedVariables false
set_option linter.unusedSimpArgs false
namespace Go.Proofs.Ytmclnamgihphcaa
open Go.RowKit

/-- lines with one more, or another one in its place -/
def setC (x : LineD) (ls : List LineD) : List LineD := ls.take (posL x ls) ++ x :: ls.drop (posL x ls + if thereB x ls = true then 1 else 0)
theorem there_lt {x : LineD} {ls : List LineD} (h : thereB x ls = true) : posL x ls < ls.length := by
  unfold thereB at h
  cases hq : ls[posL x ls]? with
  | none => rw [hq] at h; cases h
  | some q => exact (List.getElem?_eq_some_iff.1 hq).1
theorem setC_len (x : LineD) (ls : List LineD) : (setC x ls).length = ls.length + if thereB x ls = true then 0 else 1 := by
  have h := posL_le x ls
  unfold setC
  rw [List.length_append, List.length_take, List.length_cons, List.length_drop]
  by_cases ht : thereB x ls = true
  · have := there_lt ht
    rw [if_pos ht, if_pos ht]; omega
  · rw [if_neg ht, if_neg ht]; omega
/-- a line's value, or the default -/
def valueC (ls : List LineD) (h : Int) (n l : List UInt8) : List UInt8 :=
  if rightC ls = true then
    (if thereB ⟨h, n, l, []⟩ ls = true then (match ls[posL ⟨h, n, l, []⟩ ls]? with | some q => q.value | none => []) else (match findD h l with | some r => r.df | none => []))
  else []
/-- the names of a head -/
def namesFrom (h : Int) : Option LineD → List LineD → List (List UInt8)
  | _, [] => []
  | p, q :: ls => (if q.head = h ∧ (match p with | none => true | some p => !(decide (p.head = q.head) && decide (p.name = q.name))) = true then [q.name] else []) ++ namesFrom h (some q) ls
def namesC (ls : List LineD) (h : Int) : List (List UInt8) := if h = 0 ∨ rightC ls = false then [] else namesFrom h none ls

def digs3 (n : Nat) : List UInt8 := if n < 10 then [UInt8.ofNat (48 + n)] else if n < 100 then [UInt8.ofNat (48 + n / 10), UInt8.ofNat (48 + n % 10)] else [UInt8.ofNat (48 + n / 100), UInt8.ofNat (48 + n / 10 % 10), UInt8.ofNat (48 + n % 10)]
theorem digs_3 {n : Nat} (h : n < 1000) : digs n = digs3 n := by
  unfold digs3
  by_cases h1 : n < 10
  · rw [if_pos h1, digs_lt h1]
  · rw [if_neg h1, digs_ge h1]
    by_cases h2 : n < 100
    · rw [if_pos h2, digs_lt (by omega)]; rfl
    · rw [if_neg h2, digs_ge (by omega), digs_lt (by omega)]
      have : n / 10 / 10 = n / 100 := by omega
      rw [this]; rfl
def lineI (k : Nat) (v : List UInt8) : LineD := ⟨1, [48, 46, 48, 46, 48, 46] ++ digs3 k, [99, 111, 115, 116], v⟩
def fullL : Nat → List LineD
  | 0 => []
  | k + 1 => setC (lineI k [53]) (fullL k)
end Go.Proofs.Ytmclnamgihphcaa
/- Bytes in memory, in blocks of their own or not; numbers as bytes; steps through a drawn region. -/
namespace Go.Proofs.Ytmclnamgihphcaa
open Go.RowKit

theorem u8Info : (Try.prog.info? 5).map (·.size) = some 1 := by kernel_rfl
theorem u8InfoAll : (Try.prog.info? 5).map (fun i => (i.zero, i.size, i.bytes)) = some (some (.int .u8 0), 1, 1) := by kernel_rfl
def bv (x : UInt8) : Value := .int .u8 x.toNat
theorem bv_one (l : List UInt8) : ∀ v ∈ l.map bv, v.oneCell' = true := by
  intro v hv; obtain ⟨x, _, rfl⟩ := List.mem_map.1 hv; rfl

/-- a block of so many cells of a type, none frozen -/
def World.blockAt (w : World) (g : Nat) (t : TypeId) (n : Nat) : Prop := ∃ C : Array Value, w.heap[g]? = some (.cells C t (0, 0)) ∧ C.size = n
theorem World.blockAt.lt {w : World} {g t n : Nat} (h : World.blockAt w g t n) : g < w.heap.size := by obtain ⟨C, h, _⟩ := h; exact lt_of_block h
theorem World.blockAt.setCell {w : World} {g t n : Nat} (h : World.blockAt w g t n) (p : Addr) (v : Value) : World.blockAt (w.setCell p v) g t n := by
  obtain ⟨C, h, hn⟩ := h
  by_cases e : g = p.block
  · subst e
    obtain ⟨b, o, s⟩ := p
    refine ⟨if s.isSome then C else C.setIfInBounds o v, ?_, by split <;> simpa using hn⟩
    have hlt := lt_of_block h
    simp only [World.setCell, Array.getElem?_modify]
    simp [h]
  · exact ⟨C, by rw [heap_setCell_other w p g v e]; exact h, hn⟩
theorem World.blockAt.setCells {g t n : Nat} (b : Nat) : ∀ (vs : List Value) (o : Nat) (w : World), World.blockAt w g t n → World.blockAt (w.setCells b o vs) g t n
  | [], _, _, h => h
  | v :: r, o, w, h => by rw [World.setCells]; exact World.blockAt.setCells b r (o + 1) _ (h.setCell _ v)
theorem World.blockAt.there {w : World} {g t n : Nat} (h : World.blockAt w g t n) (o m : Nat) (hm : o + m ≤ n) : w.there g o m := by
  obtain ⟨C, h, hn⟩ := h
  intro j hj
  refine ⟨?_, ?_⟩
  · simp [World.cell?, h]; omega
  · simp [World.frozen?, h]
theorem World.blockAt.frozen {w : World} {g t n : Nat} (h : World.blockAt w g t n) (o : Nat) : w.frozen? ⟨g, o, none⟩ = false := by
  obtain ⟨C, h, _⟩ := h; simp [World.frozen?, h]
theorem World.blockAt.keep {F : Nat → Prop} {w w' : World} {g t n : Nat} (h : World.blockAt w g t n) (k : Keeps F w w') (hF : ¬ F g) : World.blockAt w' g t n := by
  have hl := h.lt
  obtain ⟨C, h, hn⟩ := h
  exact ⟨C, by rw [k.block g hl hF]; exact h, hn⟩

/-- a slice of bytes reads as these -/
def BytesAt (w : World) (v : Value) (x : List UInt8) : Prop :=
  ∃ p c, v = .slice p x.length c ∧ (p = none → c = 0) ∧ x.length ≤ c ∧ (0 < x.length → ∃ b o, p = some ⟨b, o, none⟩ ∧ w.rangeAt b o (x.map bv))
theorem BytesAt.keepF {F : Nat → Prop} {w w' : World} {v : Value} {x : List UInt8} (h : BytesAt w v x) (k : Keeps F w w') (hF : 0 < x.length → ∀ i, v.ownBlock = some i → ¬ F i) : BytesAt w' v x := by
  obtain ⟨p, c, rfl, hp, hc, h⟩ := h
  exact ⟨p, c, rfl, hp, hc, fun h0 => by obtain ⟨b, o, rfl, hr⟩ := h h0; exact ⟨b, o, rfl, k.rangeAt hr (hF h0 b rfl)⟩⟩
theorem BytesAt.keep {w w' : World} {v : Value} {x : List UInt8} (h : BytesAt w v x) (k : Keeps (fun _ => False) w w') : BytesAt w' v x := h.keepF k (fun _ _ _ f => f)
theorem BytesAt.nil (w : World) : BytesAt w (.slice none 0 0) [] := ⟨none, 0, rfl, fun _ => rfl, Nat.le_refl _, fun h => by simp at h⟩
theorem BytesAt.of {w : World} {g o n c : Nat} {x : List UInt8} (hn : x.length = n) (hc : n ≤ c) (h : w.rangeAt g o (x.map bv)) : BytesAt w (.slice (some ⟨g, o, none⟩) n c) x :=
  ⟨some ⟨g, o, none⟩, c, by rw [hn], (fun h => nomatch h), by omega, fun _ => ⟨g, o, rfl, h⟩⟩
theorem range_part {w : World} {g o : Nat} {x : List UInt8} (h : w.rangeAt g o (x.map bv)) (i n : Nat) : w.rangeAt g (o + i) (((x.drop i).take n).map bv) := fun j u hu => by
  rw [List.map_take, List.getElem?_take] at hu
  split at hu
  · rw [List.map_drop, List.getElem?_drop] at hu
    have := h (i + j) u hu
    rw [Nat.add_assoc]; exact this
  · cases hu
/-- l over the bytes of x from i on -/
def patch (x : List UInt8) (i : Nat) (l : List UInt8) : List UInt8 := x.take i ++ l ++ x.drop (i + l.length)
theorem patch_len (x : List UInt8) (i : Nat) (l : List UInt8) (h : i + l.length ≤ x.length) : (patch x i l).length = x.length := by
  unfold patch; simp; omega
theorem patch_nil (x : List UInt8) (i : Nat) : patch x i [] = x := by unfold patch; simp
theorem patch_get (x : List UInt8) (i : Nat) (l : List UInt8) (h : i + l.length ≤ x.length) (j : Nat) : (patch x i l)[j]? = if i ≤ j ∧ j < i + l.length then l[j - i]? else x[j]? := by
  unfold patch
  rw [List.append_assoc, List.getElem?_append, List.getElem?_append, List.getElem?_take, List.getElem?_drop]
  have h1 : (x.take i).length = i := by simp; omega
  rw [h1]
  by_cases hj : j < i
  · rw [if_pos hj, if_pos hj, if_neg (by omega)]
  · rw [if_neg hj]
    by_cases hj2 : j - i < l.length
    · rw [if_pos hj2, if_pos (by omega)]
    · rw [if_neg hj2, if_neg (by omega)]; congr 1; omega
theorem patch_cons (x : List UInt8) (i : Nat) (l : List UInt8) (b : UInt8) (h : i + 1 + l.length ≤ x.length) : (patch x (i + 1) l).set i b = patch x i (b :: l) := by
  apply List.ext_getElem?
  intro j
  rw [List.getElem?_set, patch_get _ _ _ h, patch_get _ _ _ (by simp; omega), patch_len _ _ _ h]
  simp only [List.length_cons]
  by_cases hj : i = j
  · subst hj
    rw [if_pos rfl, if_pos (by omega), if_pos (by omega)]; simp
  · rw [if_neg hj]
    by_cases h2 : i + 1 ≤ j ∧ j < i + 1 + l.length
    · rw [if_pos h2, if_pos (by omega)]
      rw [show j - i = (j - (i + 1)) + 1 by omega]; simp
    · rw [if_neg h2, if_neg (by omega)]

/-- k bytes of n, the highest first -/
def be : Nat → Nat → List UInt8
  | 0, _ => []
  | k + 1, n => UInt8.ofNat (n / 256 ^ k) :: be k n
theorem be_len (k n : Nat) : (be k n).length = k := by
  induction k with
  | zero => rfl
  | succ k ih => simp [be, ih]
def beVal (l : List UInt8) : Nat := l.foldl (fun n c => n * 256 + c.toNat) 0

/-- a block that is these bytes -/
def BufAt (w : World) (g : Nat) (x : List UInt8) : Prop := w.heap[g]? = some (.cells (x.map bv).toArray 5 (0, 0))
theorem BufAt.lt {w : World} {g : Nat} {x : List UInt8} (h : BufAt w g x) : g < w.heap.size := lt_of_block h
theorem BufAt.keep {F : Nat → Prop} {w w' : World} {g : Nat} {x : List UInt8} (h : BufAt w g x) (k : Keeps F w w') (hF : ¬ F g) : BufAt w' g x := by
  unfold BufAt; rw [k.block g h.lt hF]; exact h
theorem BufAt.range {w : World} {g : Nat} {x : List UInt8} (h : BufAt w g x) : w.rangeAt g 0 (x.map bv) := fun j u hu => by
  have h : w.heap[g]? = _ := h
  simp [World.cell?, h]; simpa using hu
theorem BufAt.part {w : World} {g : Nat} {x : List UInt8} (h : BufAt w g x) (o n : Nat) : w.rangeAt g o (((x.drop o).take n).map bv) := fun j u hu => by
  rw [List.map_take, List.getElem?_take] at hu
  split at hu
  · rw [List.map_drop, List.getElem?_drop] at hu
    have := h.range (o + j) u hu
    simpa using this
  · cases hu
theorem BufAt.frozen {w : World} {g : Nat} {x : List UInt8} (h : BufAt w g x) (o : Nat) : w.frozen? ⟨g, o, none⟩ = false := by
  have h : w.heap[g]? = _ := h
  simp [World.frozen?, h]
theorem BufAt.there {w : World} {g : Nat} {x : List UInt8} (h : BufAt w g x) (o n : Nat) (hn : o + n ≤ x.length) : w.there g o n :=
  World.blockAt.there (t := 5) (n := x.length) ⟨_, h, by simp⟩ o n hn
theorem BufAt.set {w : World} {g : Nat} {x : List UInt8} (h : BufAt w g x) (i : Nat) (b : UInt8) : BufAt (w.setCell ⟨g, i, none⟩ (bv b)) g (x.set i b) := by
  unfold BufAt
  rw [heap_put h]
  simp
theorem BufAt.sets {g : Nat} : ∀ (l : List UInt8) (o : Nat) (x : List UInt8) (w : World), BufAt w g x → o + l.length ≤ x.length → BufAt (w.setCells g o (l.map bv)) g (patch x o l)
  | [], o, x, w, h, _ => by rw [patch_nil]; exact h
  | b :: l, o, x, w, h, hl => by
    simp only [List.length_cons] at hl
    have h1 := BufAt.sets l (o + 1) (x.set o b) (w.setCell ⟨g, o, none⟩ (bv b)) (h.set o b) (by simp; omega)
    have e : patch (x.set o b) (o + 1) l = patch x o (b :: l) := by
      apply List.ext_getElem?
      intro j
      rw [patch_get _ _ _ (by simp; omega), patch_get _ _ _ (by simp; omega)]
      simp only [List.length_cons]
      by_cases hj : o ≤ j ∧ j < o + (l.length + 1)
      · rw [if_pos hj]
        by_cases hj2 : o = j
        · subst hj2; rw [if_neg (by omega), List.getElem?_set, if_pos rfl, if_pos (by omega)]; simp
        · rw [if_pos (by omega), show j - o = (j - (o + 1)) + 1 by omega]; simp
      · rw [if_neg hj, if_neg (by omega), List.getElem?_set, if_neg (by omega)]
    rw [e] at h1
    exact h1

/-- laid over the bytes of a block -/
def Laid (g o : Nat) (x l : List UInt8) (w w' : World) : Prop := BufAt w' g (patch x o l) ∧ Keeps (fun k => k = g) w w'

theorem BufAt.cell {w : World} {g : Nat} {x : List UInt8} (h : BufAt w g x) (i : Nat) (hi : i < x.length) : w.cell? ⟨g, i, none⟩ = some (bv x[i]) := by
  have := h.range i (bv x[i]) (by simp [hi])
  simpa using this
theorem bv_ofNat (m : Nat) : Value.int .u8 ((m : Int) % 256) = bv (UInt8.ofNat m) := by
  unfold bv; congr 1
theorem Laid.next {g o i k n : Nat} {x : List UInt8} {w wr : World} (h : Laid g (o + (i + 1)) x (be k n) w wr) (ho : o + (i + 1) + k ≤ x.length) : Laid g (o + i) x (be (k + 1) n) w (wr.setCell ⟨g, o + i, none⟩ (.int .u8 (((n / 256 ^ k : Nat) : Int) % 256))) := by
  rw [bv_ofNat]
  refine ⟨?_, h.2.setCell (.inl rfl) _⟩
  have h1 := h.1.set (o + i) (UInt8.ofNat (n / 256 ^ k))
  rw [show o + (i + 1) = o + i + 1 by omega, patch_cons _ _ _ _ (by rw [be_len]; omega)] at h1
  exact h1
theorem Laid.start {g o : Nat} {x : List UInt8} {w : World} (h : BufAt w g x) (n : Nat) : Laid g o x (be 0 n) w w := ⟨by unfold be; rw [patch_nil]; exact h, Keeps.refl _ _⟩

theorem beVal_foldl (l : List UInt8) : ∀ n : Nat, l.foldl (fun n c => n * 256 + c.toNat) n = n * 256 ^ l.length + beVal l := by
  unfold beVal
  induction l with
  | nil => intro n; simp
  | cons c l ih =>
    intro n
    rw [List.foldl_cons, List.foldl_cons, ih, ih (0 * 256 + c.toNat), List.length_cons, Nat.pow_succ]
    rw [Nat.add_mul, Nat.zero_mul, Nat.zero_add, Nat.mul_assoc, Nat.mul_comm 256]; omega
theorem beVal_cons (c : UInt8) (l : List UInt8) : beVal (c :: l) = c.toNat * 256 ^ l.length + beVal l := by
  show l.foldl (fun n c => n * 256 + c.toNat) (0 * 256 + c.toNat) = _
  rw [beVal_foldl]; simp
theorem beVal_snoc (l : List UInt8) (c : UInt8) : beVal (l ++ [c]) = beVal l * 256 + c.toNat := by unfold beVal; rw [List.foldl_append]; rfl
theorem beVal_lt (l : List UInt8) : beVal l < 256 ^ l.length := by
  induction l with
  | nil => simp [beVal]
  | cons c l ih =>
    rw [beVal_cons, List.length_cons, Nat.pow_succ]
    have := c.toNat_lt
    have h2 : c.toNat * 256 ^ l.length ≤ 255 * 256 ^ l.length := Nat.mul_le_mul_right _ (by omega)
    omega
theorem beVal_be (k n : Nat) : beVal (be k n) = n % 256 ^ k := by
  induction k with
  | zero => simp [be, beVal, Nat.mod_one]
  | succ k ih =>
    rw [be, beVal_cons, be_len, ih]
    have e : (UInt8.ofNat (n / 256 ^ k)).toNat = n / 256 ^ k % 256 := by simp
    rw [e, Nat.pow_succ, Nat.mod_mul, Nat.mul_comm]; omega
theorem be_beVal (l : List UInt8) : be l.length (beVal l) = l := by
  suffices h : ∀ (l : List UInt8) (m : Nat), be l.length (m * 256 ^ l.length + beVal l) = l by simpa using h l 0
  intro l
  induction l with
  | nil => intro m; rfl
  | cons c l ih =>
    intro m
    have hb := beVal_lt l
    have hp : 0 < 256 ^ l.length := Nat.pow_pos (by omega)
    rw [List.length_cons, be, beVal_cons]
    have e1 : m * 256 ^ (l.length + 1) + (c.toNat * 256 ^ l.length + beVal l) = (m * 256 + c.toNat) * 256 ^ l.length + beVal l := by
      rw [Nat.pow_succ, Nat.add_mul, Nat.mul_assoc, Nat.mul_comm (256 ^ l.length)]; omega
    rw [e1, ih (m * 256 + c.toNat)]
    have e2 : ((m * 256 + c.toNat) * 256 ^ l.length + beVal l) / 256 ^ l.length = m * 256 + c.toNat := by
      rw [Nat.add_comm, Nat.add_mul_div_right _ _ hp, Nat.div_eq_of_lt hb]; omega
    rw [e2]
    congr 1
    apply UInt8.toNat_inj.mp
    have := c.toNat_lt
    simp
theorem or_low (m : Nat) (c : UInt8) : (m * 256) ||| c.toNat = m * 256 + c.toNat := by
  have h := Nat.two_pow_add_eq_or_of_lt (i := 8) (b := c.toNat) c.toNat_lt m
  rw [show (2 : Nat) ^ 8 * m = m * 256 by omega] at h
  exact h.symm

def noughts (n : Nat) : List UInt8 := List.replicate n 0
theorem noughts_len (n : Nat) : (noughts n).length = n := by unfold noughts; simp

/-- a new block with these bytes -/
def NewBuf (x : List UInt8) (w : World) (e : Ending) (w' : World) : Prop := ∃ g, e = .returned (.slice (some ⟨g, 0, none⟩) x.length x.length) ∧ w.heap.size ≤ g ∧ BufAt w' g x ∧ Keeps (fun _ => False) w w'

/-- make([]byte, n) -/
theorem made_noughts {w w1 : World} {n : Nat} (ho : w1.ownsRow 0 5 1 (.slice (some ⟨w.heap.size, 0, none⟩) n n) n (madeCells (Value.int .u8 0).cells (n * 1)).toList) : BufAt w1 w.heap.size (noughts n) := by
  rcases ho.2 with ⟨h, _⟩ | ⟨g, cap, cur, he, _, hg, _, _, hcs, ht⟩
  · cases h
  · injection he with h1 h2 h3
    injection h1 with h1
    injection h1 with h1
    subst h1; subst h3
    unfold BufAt
    rw [hg]
    have e : cur.toList = (noughts n).map bv := by
      have hm : (madeCells (Value.int .u8 0).cells (n * 1)).toList = (noughts n).map bv := by
        rw [Nat.mul_one]; unfold noughts; rw [List.map_replicate]; exact toList_madeCells_one (.int .u8 0) n
      rw [hm] at ht
      rw [← ht, List.take_of_length_le]
      rw [Array.length_toList, hcs]; omega
    rw [← e]
theorem made_noughts1 {w w1 : World} {ob : Obj} {n : Nat} (ho : w1.ownsRow 0 5 1 (.slice (some ⟨(w.alloc ob).heap.size, 0, none⟩) n n) n (madeCells (Value.int .u8 0).cells (n * 1)).toList) : BufAt w1 (w.heap.size + 1) (noughts n) := by
  have e : (w.alloc ob).heap.size = w.heap.size + 1 := by simp
  rw [← e]; exact made_noughts ho
theorem run_copy_str {P : Program} (w : World) (dT sT ty elem : TypeId) (b o dLen dCap : Nat) (s : ByteArray) (l : List UInt8)
    (hu : P.underlying dT = some (.slice elem)) (hs : (P.info? elem).map (·.size) = some 1) (hl : s.data.toList = l) (hd : l.length ≤ dLen) (hth : w.there b o l.length) :
    (Builtin.copy_ #[dT, sT] ty #[.slice (some ⟨b, o, none⟩) dLen dCap, .string s]).run P w = .ok (goInt l.length) (w.setCells b o (l.map bv)) := by
  have hst := run_storeCells_cells (P := P) b o (l.map bv) 0 w (fun j hj => by simpa using (hth j (by simpa using hj)).1) (fun j hj => by simpa using (hth j (by simpa using hj)).2) (bv_one l)
  have hsz : s.size = l.length := by rw [← hl]; rfl
  have hmin : s.size.min dLen = l.length := by rw [hsz]; exact Nat.min_eq_left hd
  have hcs : List.take l.length (List.map (fun b : UInt8 => Value.int .u8 b.toNat) s.data.toList) = l.map bv := by rw [hl, List.take_of_length_le (by simp)]; rfl
  cases hq : P.info? elem with
  | none => simp [hq] at hs
  | some i =>
    have hst' : Sem.run P (storeCells { block := b, off := o } (l.map bv)) w = .ok () (w.setCells b o (l.map bv)) := by simpa using hst
    simp [Builtin.copy_, run_underlying hu, Builtin.lenOf, Builtin.firstCells, sizeOf, typeInfo, hq, hmin, hcs, hst']

/-- copies into a block of bytes, the world behind under a name -/
theorem wpList_copy_str {P : Program} {w : World} {ops : Array Oper} {rest : List Oper} {o : Oper} {a : Act} {Q : Exit → Act → World → Prop} (hgd : o.guard = none) (d s : Operand) (dT sT : TypeId)
    (ho : o.op = .call { callee := .builtin .copy, args := #[d, s], argTypes := #[dT, sT] }) (elem : TypeId) (hu : P.underlying dT = some (.slice elem)) (hsz : (P.info? elem).map (·.size) = some 1)
    (g off dLen dCap : Nat) (st : ByteArray) (hd : a.eval d = .slice (some ⟨g, off, none⟩) dLen dCap) (hs : a.eval s = .string st) (x l : List UInt8) (hl : st.data.toList = l) (hdl : l.length ≤ dLen)
    (hb : BufAt w g x) (hx : off + l.length ≤ x.length)
    (h : ∀ w1, Hid (Laid g off x l w w1) → wpList P ops Q rest (a.put o.dst (goInt l.length)) w1) : wpList P ops Q (o :: rest) a w := by
  refine wpList_plain hgd fun K hK => ?_
  have hrun := run_copy_str (P := P) w dT sT o.type elem g off dLen dCap st l hu hsz hl hdl (hb.there off _ hx)
  have h' := h _ (Lib.hid ⟨hb.sets l off x w hx, Keeps.setCells (F := fun k => k = g) (.inl rfl) _ _ _ (Keeps.refl _ _)⟩)
  unfold Oper.wp
  simp [execOp, ho, resolve, invoke, builtin, hd, hs, hrun, Result.andThen]
  exact hK _ _ h'
theorem wpList_copy_buf {P : Program} {w : World} {ops : Array Oper} {rest : List Oper} {o : Oper} {a : Act} {Q : Exit → Act → World → Prop} (hgd : o.guard = none) (d s : Operand) (dT sT : TypeId)
    (ho : o.op = .call { callee := .builtin .copy, args := #[d, s], argTypes := #[dT, sT] }) (elem : TypeId) (hu : P.underlying dT = some (.slice elem)) (hsz : (P.info? elem).map (·.size) = some 1)
    (g off dLen dCap : Nat) (sb so sLen sCap : Nat) (hd : a.eval d = .slice (some ⟨g, off, none⟩) dLen dCap) (hs : a.eval s = .slice (some ⟨sb, so, none⟩) sLen sCap) (x l : List UInt8) (hl : l.length = sLen) (hdl : sLen ≤ dLen)
    (hb : BufAt w g x) (hx : off + l.length ≤ x.length) (hsrc : w.rangeAt sb so (l.map bv))
    (h : ∀ w1, Hid (Laid g off x l w w1) → wpList P ops Q rest (a.put o.dst (goInt l.length)) w1) : wpList P ops Q (o :: rest) a w := by
  have e : (l.map bv).length = l.length := by simp
  refine wpList_copy_cells hgd d s dT sT ho elem hu hsz g off dLen dCap ⟨sb, so, none⟩ sLen sCap hd hs (l.map bv) (by rw [e, hl]; exact (Nat.min_eq_left hdl).symm) (fun j v hv => by rw [Addr.add_mid]; exact hsrc j v hv) (by rw [e]; exact hb.there off _ hx) (bv_one l) ?_
  rw [e]
  exact h _ (Lib.hid ⟨hb.sets l off x w hx, Keeps.setCells (F := fun k => k = g) (.inl rfl) _ _ _ (Keeps.refl _ _)⟩)

theorem patch_one (x : List UInt8) (i : Nat) (b : UInt8) (h : i < x.length) : patch x i [b] = x.set i b := by
  rw [← patch_cons x i [] b (by simp; omega), patch_nil]
theorem BufAt.bytes {w : World} {g : Nat} {x : List UInt8} (h : BufAt w g x) (o n c : Nat) (hn : n = ((x.drop o).take n).length) (hc : n ≤ c) : BytesAt w (.slice (some ⟨g, o, none⟩) n c) ((x.drop o).take n) :=
  ⟨some ⟨g, o, none⟩, c, by rw [← hn], (fun h => nomatch h), by omega, fun _ => ⟨g, o, rfl, h.part o n⟩⟩

theorem Laid.other {g o : Nat} {x l : List UInt8} {w w' : World} (h : Laid g o x l w w') {b i : Nat} {v : Value} (hc : w.cell? ⟨b, i, none⟩ = some v) (hb : b ≠ g) : w'.cell? ⟨b, i, none⟩ = some v := by
  rw [h.2.cell (p := ⟨b, i, none⟩) (World.block_lt_of_cell? w _ hc) hb]; exact hc
theorem param2 {w w1 : World} {a b : Value} {t : TypeId} (k : Keeps (fun _ => False) (w.alloc (.cells #[a, b] t)) w1) : w1.cell? ⟨w.heap.size, 0, none⟩ = some a ∧ w1.cell? ⟨w.heap.size, 1, none⟩ = some b := by
  have hb := heap_alloc_last w (.cells #[a, b] t)
  have h0 : (w.alloc (.cells #[a, b] t)).cell? ⟨w.heap.size, 0, none⟩ = some a := by unfold World.cell?; simp only [hb]; rfl
  have h1 : (w.alloc (.cells #[a, b] t)).cell? ⟨w.heap.size, 1, none⟩ = some b := by unfold World.cell?; simp only [hb]; rfl
  exact ⟨by rw [k.cell (p := ⟨w.heap.size, 0, none⟩) (World.block_lt_of_cell? _ _ h0) id]; exact h0, by rw [k.cell (p := ⟨w.heap.size, 1, none⟩) (World.block_lt_of_cell? _ _ h1) id]; exact h1⟩
def PC (b : Nat) (v : Value) (W : World) : Prop := W.cell? ⟨b, 0, none⟩ = some v
theorem PC.cell {b : Nat} {v : Value} : ∀ W : World, PC b v W → W.cell? ⟨b, 0, none⟩ = some v := fun _ h => h
theorem ne_succ (n : Nat) : n ≠ n + 1 := by omega

theorem Laid.one {w : World} {g : Nat} {x : List UInt8} (h : BufAt w g x) (i : Nat) (b : UInt8) (hi : i < x.length) : Laid g i x [b] w (w.setCell ⟨g, i, none⟩ (bv b)) :=
  ⟨by rw [patch_one _ _ _ hi]; exact h.set i b, (Keeps.refl (fun k => k = g) w).setCell (.inl rfl) _⟩
/-- what was laid into a new block -/
theorem Keeps.laid {a w w' : World} {g o : Nat} {x l : List UInt8} (k : Keeps (fun _ => False) a w) (h : Laid g o x l w w') (hg : a.heap.size ≤ g) : Keeps (fun _ => False) a w' := k.trans' h.2 (fun i e => .inr (by rw [e]; exact hg))

/-- string(b), as the walk meets it -/
theorem conv_str (g o c : Nat) (l : List UInt8) (W : World) (h : W.rangeAt g o (l.map bv)) : (convert 57 9 (.slice (some ⟨g, o, none⟩) l.length c)).run Try.prog W = .ok (.string ⟨l.toArray⟩) W :=
  run_convert_bytes_back W 57 9 5 ⟨g, o, none⟩ c l Try.underlying57 Try.underlying5 Try.underlying9 (fun j hj => by
    rw [Addr.add_mid]; have := h j (.int .u8 (l[j].toNat)) (by simp [hj, bv]); exact this)
theorem conv_nil (W : World) : (convert 57 9 (.slice none 0 0)).run Try.prog W = .ok (.string ⟨#[]⟩) W := by
  rw [run_convert_bytes_string W 57 9 5 none 0 0 Try.underlying57 Try.underlying5 Try.underlying9]; rfl
theorem conv_bytes {W : World} {v : Value} {x : List UInt8} (h : BytesAt W v x) (h0 : 0 < x.length) : (convert 57 9 v).run Try.prog W = .ok (.string ⟨x.toArray⟩) W := by
  obtain ⟨p, c, rfl, -, -, h⟩ := h
  obtain ⟨g, o, rfl, hr⟩ := h h0
  exact conv_str g o c _ W hr

theorem eql_nil (a : Addr) (l c : Nat) (w : World) : (binOp .eql 57 (.slice (some a) l c) (.slice none 0 0)).run Try.prog w = .ok (.bool false) w := by
  simp [binOp, run_equal_slice_nil w 57 _ (some a) l c Try.underlying57]
/-- new bytes, wherever they lie -/
def NewBytes (x : List UInt8) (w : World) (e : Ending) (w' : World) : Prop := ∃ v, e = .returned v ∧ BytesAt w' v x ∧ (∀ k, v.ownBlock = some k → w.heap.size ≤ k) ∧ Keeps (fun _ => False) w w'
theorem owns_empty (w : World) : (w.alloc (.cells #[] 5)).ownsRow 0 5 1 (.slice (some ⟨w.heap.size, 0, none⟩) 0 0) 0 [] :=
  ⟨rfl, .inr ⟨w.heap.size, 0, #[], rfl, Nat.zero_le _, heap_alloc_last w _, Nat.le_refl _, Nat.zero_le _, rfl, rfl⟩⟩
theorem owns_bytes {w : World} {p : Option Addr} {n c : Nat} {x : List UInt8} (h : w.ownsRow 0 5 1 (.slice p n c) n (x.map bv)) : BytesAt w (.slice p n c) x := by
  have hl : x.length = n := by have := h.1; simpa using this
  subst hl
  rcases h.2 with ⟨e, h2⟩ | ⟨g, cap, cur, he, _, _, hle, _⟩
  · injection e with e1 e2 e3; subst e1; subst e3
    exact ⟨none, 0, rfl, fun _ => rfl, by omega, fun h0 => by omega⟩
  · injection he with e1 e2 e3
    subst e1; subst e3
    refine ⟨_, _, rfl, fun h => (by cases h), hle, fun h0 => ⟨g, 0, rfl, fun j u hu => ?_⟩⟩
    have := h.cells (g := g) rfl j u hu
    rw [Addr.add_mid] at this
    exact this

/-- bytes of the call's own: no older block is part of them -/
def OwnB (w0 w : World) (v : Value) (xs : List UInt8) : Prop :=
  w.ownsRow 0 5 1 v xs.length (xs.map bv) ∧ (∀ k, v.ownBlock = some k → w0.heap.size ≤ k) ∧ w0.heap.size ≤ w.heap.size
theorem OwnB.nil (w0 w : World) (h : w0.heap.size ≤ w.heap.size) : OwnB w0 w (.slice none 0 0) [] := ⟨⟨rfl, .inl ⟨rfl, rfl⟩⟩, by simp [Value.ownBlock], h⟩
theorem OwnB.slice {w0 w : World} {v : Value} {xs : List UInt8} (h : OwnB w0 w v xs) : ∃ p c, v = .slice p xs.length c := ownsRow_slice h.1
theorem OwnB.bytes {w0 w : World} {v : Value} {xs : List UInt8} (h : OwnB w0 w v xs) : BytesAt w v xs := by
  obtain ⟨p, c, rfl⟩ := h.slice
  exact owns_bytes h.1
theorem OwnB.keep {F : Nat → Prop} {w0 w w' : World} {v : Value} {xs : List UInt8} (h : OwnB w0 w v xs) (k : Keeps F w w') (hF : ∀ i, v.ownBlock = some i → ¬ F i) : OwnB w0 w' v xs :=
  ⟨k.ownsRow h.1 hF, h.2.1, Nat.le_trans h.2.2 k.size⟩
theorem OwnB.older {w0 w1 w : World} {v : Value} {xs : List UInt8} (h : OwnB w1 w v xs) (hs : w0.heap.size ≤ w1.heap.size) : OwnB w0 w v xs := ⟨h.1, fun k e => Nat.le_trans hs (h.2.1 k e), Nat.le_trans hs h.2.2⟩
theorem OwnB.empty (w0 w : World) (h : w0.heap.size ≤ w.heap.size) : OwnB w0 (w.alloc (.cells #[] 5)) (.slice (some ⟨w.heap.size, 0, none⟩) 0 0) [] :=
  ⟨owns_empty w, fun k e => by simp only [Value.ownBlock, Option.some.injEq] at e; omega, by simp; omega⟩
/-- a new block of bytes -/
theorem OwnB.new (w0 w : World) (h : w0.heap.size ≤ w.heap.size) (l : List UInt8) {n : Nat} (hn : l.length = n) (hm : n ≤ maxLen) : OwnB w0 (w.alloc (.cells (l.map bv).toArray 5)) (.slice (some ⟨w.heap.size, 0, none⟩) n n) l := by
  subst hn
  refine ⟨⟨by simp, .inr ⟨w.heap.size, l.length, (l.map bv).toArray, rfl, Nat.zero_le _, heap_alloc_last w _, Nat.le_refl _, hm, by simp, ?_⟩⟩, fun k e => by simp only [Value.ownBlock, Option.some.injEq] at e; omega, by simp; omega⟩
  rw [List.take_of_length_le (by simp)]
/-- what an append makes -/
structure Grown (w : World) (v : Value) (p : Option Addr) (n c : Nat) (w' : World) : Prop where
  k : Keeps (fun k => v.ownBlock = some k) w w'
  s : ∀ k, (Value.slice p n c).ownBlock = some k → v.ownBlock = some k ∨ w.heap.size ≤ k
/-- bytes of whatever source behind bytes of the call's own -/
theorem wpList_append_b {P : Program} {w : World} {ops : Array Oper} {rest : List Oper} {o : Oper} {a : Act} {Q : Exit → Act → World → Prop} (hgd : o.guard = none) (s x : Operand) (t : TypeId)
    (ho : o.op = .call { callee := .builtin .append, args := #[s, x], argTypes := #[t, t] })
    (i : TypeInfo) (ht : P.underlying t = some (.slice 5)) (hi : P.info? 5 = some i) (hz : i.zero = some (.int .u8 0)) (hsize : i.size = 1) (hby : i.bytes = 1)
    (w0 : World) (v : Value) (xs : List UInt8) (hs : a.eval s = v) (hown : OwnB w0 w v xs) (sv : Value) (hx : a.eval x = sv) (l : List UInt8) (hl : BytesAt w sv l) (hsz : xs.length + l.length ≤ 70368744177664)
    (h : ∀ p c w', Hid (OwnB w0 w' (.slice p (xs.length + l.length) c) (xs ++ l)) → Hid (Grown w v p (xs.length + l.length) c w') → wpList P ops Q rest (a.put o.dst (.slice p (xs.length + l.length) c)) w') : wpList P ops Q (o :: rest) a w := by
  obtain ⟨sp, sc, rfl, hp, -, hlr⟩ := hl
  cases sp with
  | none =>
    have h0 : l.length = 0 := by
      rcases Nat.eq_zero_or_pos l.length with h | h
      · exact h
      · obtain ⟨b, o, e, _⟩ := hlr h; cases e
    have hc := hp rfl
    subst hc
    have hl0 : l = [] := List.length_eq_zero_iff.1 h0
    subst hl0
    obtain ⟨p, c, rfl⟩ := hown.slice
    refine wpList_append_own_none hgd s x t ho 0 5 i 1 ht hi _ xs.length (xs.map bv) hs hown.1 hx ?_
    exact h p c w (Lib.hid (by simpa using hown)) (Lib.hid ⟨Keeps.refl _ _, fun k e => .inl e⟩)
  | some ad =>
    refine wpList_append_sep hgd s x t ho 5 i (.int .u8 0) 1 1 ht hi hz hsize hby rfl (by decide) v xs.length (xs.map bv) hs hown.1 ad l.length sc (l.map bv) hx (by simp) (fun j u hu => ?_) (bv_one l) (by unfold maxLen; omega) (by omega) ?_
    · have h0 : 0 < l.length := by
        have := (List.getElem?_eq_some_iff.1 hu).1; simp at this; omega
      obtain ⟨b, o, e, hr⟩ := hlr h0
      injection e with e; subst e
      rw [Addr.add_mid]; exact hr j u hu
    · intro p c w' h1 h2 h3
      refine h p c w' (Lib.hid ⟨by simpa using h1, fun k e => ?_, Nat.le_trans hown.2.2 h2.size⟩) (Lib.hid ⟨(Keeps.refl _ _).grown h2 (fun k e => .inl e), h3.out⟩)
      rcases h3.out k e with e | e
      · exact hown.2.1 k e
      · exact Nat.le_trans hown.2.2 e
end Go.Proofs.Ytmclnamgihphcaa
/- Rows of structs in memory, of whatever kind; rows of the call's own (the first part of PA, for seats without packets). -/
namespace Go.Proofs.Ytmclnamgihphcaa
open Go.RowKit

/-- a slice of structs of sz cells reads as these -/
def RowsAt {α : Type} (sz : Nat) (cv : α → List Value) (w : World) (v : Value) (xs : List α) : Prop :=
  ∃ p c, v = .slice p xs.length c ∧ (p = none → c = 0) ∧ xs.length ≤ c ∧ (0 < xs.length → ∃ g o, p = some ⟨g, o, none⟩ ∧ ∀ i x, xs[i]? = some x → w.rangeAt g (o + i * sz) (cv x))
section
variable {α : Type} {sz : Nat} {cv : α → List Value}
theorem RowsAt.keepF {F : Nat → Prop} {w w' : World} {v : Value} {xs : List α} (h : RowsAt sz cv w v xs) (k : Keeps F w w') (hF : 0 < xs.length → ∀ i, v.ownBlock = some i → ¬ F i) : RowsAt sz cv w' v xs := by
  obtain ⟨p, c, rfl, hp, hc, h⟩ := h
  refine ⟨p, c, rfl, hp, hc, fun h0 => ?_⟩
  obtain ⟨g, o, rfl, hr⟩ := h h0
  exact ⟨g, o, rfl, fun i x hx => k.rangeAt (hr i x hx) (hF h0 g rfl)⟩
theorem RowsAt.keep {w w' : World} {v : Value} {xs : List α} (h : RowsAt sz cv w v xs) (k : Keeps (fun _ => False) w w') : RowsAt sz cv w' v xs := h.keepF k (fun _ _ _ f => f)
theorem RowsAt.nil (w : World) : RowsAt sz cv w (.slice none 0 0) ([] : List α) := ⟨none, 0, rfl, fun _ => rfl, Nat.le_refl _, fun h => by simp at h⟩
theorem RowsAt.slice {w : World} {v : Value} {xs : List α} (h : RowsAt sz cv w v xs) : ∃ p c, v = .slice p xs.length c := by
  obtain ⟨p, c, rfl, _⟩ := h; exact ⟨p, c, rfl⟩
theorem RowsAt.open {w : World} {p : Option Addr} {n c : Nat} {xs : List α} (h : RowsAt sz cv w (.slice p n c) xs) (h0 : 0 < xs.length) : ∃ g o, p = some ⟨g, o, none⟩ ∧ ∀ i x, xs[i]? = some x → w.rangeAt g (o + i * sz) (cv x) := by
  obtain ⟨p', c', e, -, -, hr⟩ := h
  injection e with e1 e2 e3
  subst e1
  exact hr h0
theorem RowsAt.len {w : World} {p : Option Addr} {n c : Nat} {xs : List α} (h : RowsAt sz cv w (.slice p n c) xs) : n = xs.length := by
  obtain ⟨p', c', e, _⟩ := h; injection e
theorem RowsAt.lt {w : World} {v : Value} {xs : List α} (h : RowsAt sz cv w v xs) (h0 : 0 < xs.length) (hcv : ∀ x, 0 < (cv x).length) : ∀ i, v.ownBlock = some i → i < w.heap.size := fun i e => by
  obtain ⟨p, c, rfl, -, -, hr⟩ := h
  obtain ⟨g, o, rfl, hra⟩ := hr h0
  simp only [Value.ownBlock, Option.some.injEq] at e
  subst e
  have := hra 0 xs[0] (List.getElem?_eq_getElem h0) 0 _ (List.getElem?_eq_getElem (hcv _))
  have := World.block_lt_of_cell? w _ this
  exact this

def rowCells (cv : α → List Value) (xs : List α) : List Value := xs.flatMap cv
theorem rowCells_len (hcv : ∀ x, (cv x).length = sz) (xs : List α) : (rowCells cv xs).length = xs.length * sz := by
  induction xs with
  | nil => simp [rowCells]
  | cons n ns ih => unfold rowCells at *; rw [List.flatMap_cons, List.length_append, ih, List.length_cons, hcv, Nat.add_mul]; omega
theorem rowCells_snoc (xs : List α) (x : α) : rowCells cv (xs ++ [x]) = rowCells cv xs ++ cv x := by unfold rowCells; simp
theorem rowCells_get (hcv : ∀ x, (cv x).length = sz) (xs : List α) : ∀ (i : Nat) (x : α), xs[i]? = some x → ∀ j, j < sz → (rowCells cv xs)[i * sz + j]? = (cv x)[j]? := by
  induction xs with
  | nil => intro i l h; simp at h
  | cons n ns ih =>
    intro i x h j hj
    have e : rowCells cv (n :: ns) = cv n ++ rowCells cv ns := by unfold rowCells; rw [List.flatMap_cons]
    rw [e, List.getElem?_append, hcv]
    cases i with
    | zero => simp at h; subst h; rw [if_pos (by omega)]; simp
    | succ i =>
      rw [if_neg (by rw [Nat.add_mul]; omega), ← ih i x (by simpa using h) j hj]; congr 1; rw [Nat.add_mul]; omega
/-- structs of the call's own -/
def OwnR (t : TypeId) (sz : Nat) (cv : α → List Value) (w0 w : World) (v : Value) (xs : List α) : Prop :=
  w.ownsRow 0 t sz v xs.length (rowCells cv xs) ∧ (∀ k, v.ownBlock = some k → w0.heap.size ≤ k) ∧ w0.heap.size ≤ w.heap.size
theorem OwnR.nil {t : TypeId} (w0 w : World) (h : w0.heap.size ≤ w.heap.size) : OwnR t sz cv w0 w (.slice none 0 0) ([] : List α) := ⟨⟨by simp [rowCells], .inl ⟨rfl, by simp [rowCells]⟩⟩, by simp [Value.ownBlock], h⟩
theorem OwnR.slice {t : TypeId} {w0 w : World} {v : Value} {xs : List α} (h : OwnR t sz cv w0 w v xs) : ∃ p c, v = .slice p xs.length c := ownsRow_slice h.1
theorem OwnR.keep {t : TypeId} {F : Nat → Prop} {w0 w w' : World} {v : Value} {xs : List α} (h : OwnR t sz cv w0 w v xs) (k : Keeps F w w') (hF : ∀ i, v.ownBlock = some i → ¬ F i) : OwnR t sz cv w0 w' v xs :=
  ⟨k.ownsRow h.1 hF, h.2.1, Nat.le_trans h.2.2 k.size⟩
theorem OwnR.older {t : TypeId} {w0 w1 w : World} {v : Value} {xs : List α} (h : OwnR t sz cv w1 w v xs) (hs : w0.heap.size ≤ w1.heap.size) : OwnR t sz cv w0 w v xs := ⟨h.1, fun k e => Nat.le_trans hs (h.2.1 k e), Nat.le_trans hs h.2.2⟩
theorem OwnR.at {t : TypeId} {w0 w : World} {v : Value} {xs : List α} (hcv : ∀ x, (cv x).length = sz) (h : OwnR t sz cv w0 w v xs) : RowsAt sz cv w v xs := by
  obtain ⟨p, c, rfl⟩ := h.slice
  rcases h.1.2 with ⟨e, h2⟩ | ⟨g, cap, cur, he, _, _, hle, _⟩
  · injection e with e1 e2 e3; subst e1; subst e3
    exact ⟨none, 0, rfl, fun _ => rfl, by omega, fun h0 => by omega⟩
  · injection he with e1 e2 e3
    subst e1; subst e3
    refine ⟨_, _, rfl, fun h => (by cases h), hle, fun h0 => ⟨g, 0, rfl, fun i l hl j u hu => ?_⟩⟩
    have hj : j < sz := by have := (List.getElem?_eq_some_iff.1 hu).1; rw [hcv] at this; exact this
    have := h.1.cells (g := g) rfl (i * sz + j) u (by rw [rowCells_get hcv xs i l hl j hj]; exact hu)
    rw [Addr.add_mid] at this
    rw [Nat.zero_add]; rw [Nat.zero_add] at this; exact this
/-- a struct behind structs of the call's own: one operation -/
theorem wp_append_r {P : Program} {w : World} {o : Oper} {a : Act} {K : Act → World → Prop} {Q : Exit → Act → World → Prop} (s x : Operand) (t e : TypeId)
    (ho : o.op = .call { callee := .builtin .append, args := #[s, x], argTypes := #[t, t] })
    (i : TypeInfo) (z : Value) (by_ : Nat) (ht : P.underlying t = some (.slice e)) (hi : P.info? e = some i) (hz : i.zero = some z) (hsize : i.size = sz) (hby : i.bytes = by_) (hzs : z.cells.size = sz) (hsz0 : 0 < sz) (hby1 : by_ ≤ 100000)
    (hcv : ∀ x, (cv x).length = sz) (w0 : World) (v : Value) (n : Nat) (xs : List α) (hn : xs.length = n) (hs : a.eval s = v) (hown : OwnR e sz cv w0 w v xs) (ad : Addr) (hx : a.eval x = .slice (some ad) 1 1) (l : α) (hl : ∀ j u, (cv l)[j]? = some u → w.cell? (ad.add j) = some u) (h1 : ∀ u ∈ cv l, u.oneCell' = true) (hsz : n ≤ 1000000000)
    (h : ∀ p c w', OwnR e sz cv w0 w' (.slice p (n + 1) c) (xs ++ [l]) → Grown w v p (n + 1) c w' → K (a.put o.dst (.slice p (n + 1) c)) w') : Oper.wp P o a w K Q := by
  subst hn
  have hb : (xs.length + 1) * by_ ≤ 1000000001 * 100000 := Nat.mul_le_mul (by omega) hby1
  obtain ⟨v', w', hr, h2, h3, h4⟩ := run_append_sep (P := P) w t o.type e i z sz by_ ht hi hz hsize hby hzs hsz0 v xs.length (rowCells cv xs) hown.1 ad 1 1 (cv l) (by rw [hcv]; omega) hl h1 (by unfold maxLen; omega) (by omega)
  obtain ⟨p, c, rfl⟩ := ownsRow_slice h2
  unfold Oper.wp execOp
  simp only [ho, resolve, invoke, builtin, Sem.run_bind, Sem.run_pure, Result.andThen_ok, List.map_toArray, List.map_cons, List.map_nil, hs, hx, hr]
  refine h p c w' ⟨by rw [rowCells_snoc]; simpa using h2, fun k e => ?_, Nat.le_trans hown.2.2 h3.size⟩ ⟨(Keeps.refl _ _).grown h3 (fun k e => .inl e), h4⟩
  rcases h4 k e with e | e
  · exact hown.2.1 k e
  · exact Nat.le_trans hown.2.2 e
theorem wpList_append_r {P : Program} {w : World} {ops : Array Oper} {rest : List Oper} {o : Oper} {a : Act} {Q : Exit → Act → World → Prop} (hgd : o.guard = none) (s x : Operand) (t e : TypeId)
    (ho : o.op = .call { callee := .builtin .append, args := #[s, x], argTypes := #[t, t] })
    (i : TypeInfo) (z : Value) (by_ : Nat) (ht : P.underlying t = some (.slice e)) (hi : P.info? e = some i) (hz : i.zero = some z) (hsize : i.size = sz) (hby : i.bytes = by_) (hzs : z.cells.size = sz) (hsz0 : 0 < sz) (hby1 : by_ ≤ 100000)
    (hcv : ∀ x, (cv x).length = sz) (w0 : World) (v : Value) (n : Nat) (xs : List α) (hn : xs.length = n) (hs : a.eval s = v) (hown : OwnR e sz cv w0 w v xs) (ad : Addr) (hx : a.eval x = .slice (some ad) 1 1) (l : α) (hl : ∀ j u, (cv l)[j]? = some u → w.cell? (ad.add j) = some u) (h1 : ∀ u ∈ cv l, u.oneCell' = true) (hsz : n ≤ 1000000000)
    (h : ∀ p c w', Hid (OwnR e sz cv w0 w' (.slice p (n + 1) c) (xs ++ [l])) → Hid (Grown w v p (n + 1) c w') → wpList P ops Q rest (a.put o.dst (.slice p (n + 1) c)) w') : wpList P ops Q (o :: rest) a w :=
  wpList_plain hgd fun _ hK => wp_append_r s x t e ho i z by_ ht hi hz hsize hby hzs hsz0 hby1 hcv w0 v n xs hn hs hown ad hx l hl h1 hsz (fun p c w' h1 h2 => hK _ _ (h p c w' (Lib.hid h1) (Lib.hid h2)))
end
theorem OwnR.keeps {α : Type} {t sz : Nat} {cv : α → List Value} {w0 W W' : World} {v : Value} {xs : List α} (h : OwnR t sz cv w0 W v xs) (k : Keeps (fun _ => False) w0 W) {p : Option Addr} {n c : Nat} (g : Grown W v p n c W') : Keeps (fun _ => False) w0 W' :=
  k.trans' g.k (fun i e => .inr (h.2.1 i e))

section
variable {α : Type} {sz : Nat} {cv : α → List Value}
/-- what a slice of rows is, cut -/
theorem RowsAt.take {w : World} {p : Option Addr} {n c : Nat} {xs : List α} (h : RowsAt sz cv w (.slice p n c) xs) (k : Nat) (hk : k ≤ xs.length) : RowsAt sz cv w (.slice p k c) (xs.take k) := by
  obtain ⟨p', c', e, hp, hc, hr⟩ := h
  injection e with e1 e2 e3
  subst e1; subst e3
  refine ⟨p, c, by rw [List.length_take, Nat.min_eq_left hk], hp, by rw [List.length_take]; omega, fun h0 => ?_⟩
  rw [List.length_take] at h0
  obtain ⟨g, o, rfl, hra⟩ := hr (by omega)
  refine ⟨g, o, rfl, fun i x hx => hra i x ?_⟩
  rw [List.getElem?_take] at hx
  split at hx
  · exact hx
  · cases hx
theorem RowsAt.drop {w : World} {g o n c : Nat} {xs : List α} (h : RowsAt sz cv w (.slice (some ⟨g, o, none⟩) n c) xs) (k : Nat) (hk : k ≤ xs.length) (c' : Nat) (hc' : xs.length - k ≤ c') : RowsAt sz cv w (.slice (some ⟨g, o + k * sz, none⟩) (xs.length - k) c') (xs.drop k) := by
  obtain ⟨p', c2, e, hp, hc, hr⟩ := h
  injection e with e1 e2 e3
  subst e1
  refine ⟨_, c', by rw [List.length_drop], fun h => (by cases h), by rw [List.length_drop]; exact hc', fun h0 => ⟨g, o + k * sz, rfl, fun i x hx => ?_⟩⟩
  rw [List.length_drop] at h0
  obtain ⟨g2, o2, e, hra⟩ := hr (by omega)
  injection e with e; injection e with e1 e2; subst e1; subst e2
  have := hra (k + i) x (by simpa [List.getElem?_drop] using hx)
  rw [Nat.add_mul, ← Nat.add_assoc] at this
  exact this
/-- a slice of rows from row k on, as the walk spells it -/
theorem RowsAt.from {w : World} {p : Option Addr} {n c : Nat} {xs : List α} (h : RowsAt sz cv w (.slice p n c) xs) (k : Nat) (hk : k ≤ xs.length) : RowsAt sz cv w (.slice (if c = k then p else Option.map (fun x => x.add (k * sz)) p) (xs.length - k) (c - k)) (xs.drop k) := by
  obtain ⟨p', c', e, hp, hc, hr⟩ := h
  injection e with e1 e2 e3
  subst e1; subst e3
  refine ⟨_, c - k, by rw [List.length_drop], fun h0 => ?_, by rw [List.length_drop]; omega, fun h0 => ?_⟩
  · split at h0
    · omega
    · cases p with
      | none => have := hp rfl; omega
      | some a => cases h0
  · rw [List.length_drop] at h0
    obtain ⟨g, o, rfl, hra⟩ := hr (by omega)
    refine ⟨g, o + k * sz, ?_, fun i x hx => ?_⟩
    · rw [if_neg (by omega), Option.map_some, Addr.add_mid]
    · have := hra (k + i) x (by simpa [List.getElem?_drop] using hx)
      rw [Nat.add_mul, ← Nat.add_assoc] at this
      exact this
theorem rowCells_app (xs ys : List α) : rowCells cv (xs ++ ys) = rowCells cv xs ++ rowCells cv ys := by unfold rowCells; simp
theorem rowCells_at {w : World} {v : Value} (hcv : ∀ x, (cv x).length = sz) (h0 : 0 < sz) {g o : Nat} (xs : List α) (hr : ∀ i x, xs[i]? = some x → w.rangeAt g (o + i * sz) (cv x)) : ∀ j u, (rowCells cv xs)[j]? = some u → w.cell? ⟨g, o + j, none⟩ = some u := by
  intro j u hu
  have hj : j < xs.length * sz := by rw [← rowCells_len hcv]; exact (List.getElem?_eq_some_iff.1 hu).1
  have hq : j / sz < xs.length := (Nat.div_lt_iff_lt_mul h0).2 hj
  have e : j = j / sz * sz + j % sz := by rw [Nat.mul_comm]; exact (Nat.div_add_mod j sz).symm
  have hm : j % sz < sz := Nat.mod_lt _ h0
  obtain ⟨x, hx⟩ : ∃ x, xs[j / sz]? = some x := ⟨_, List.getElem?_eq_getElem hq⟩
  rw [e, rowCells_get hcv xs _ x hx _ hm] at hu
  have := hr _ x hx (j % sz) u hu
  rw [Nat.add_assoc, ← e] at this
  exact this
/-- rows of whatever source behind rows of the call's own -/
theorem wp_append_rows {P : Program} {w : World} {o : Oper} {a : Act} {K : Act → World → Prop} {Q : Exit → Act → World → Prop} (s x : Operand) (t e : TypeId)
    (ho : o.op = .call { callee := .builtin .append, args := #[s, x], argTypes := #[t, t] })
    (i : TypeInfo) (z : Value) (by_ : Nat) (ht : P.underlying t = some (.slice e)) (hi : P.info? e = some i) (hz : i.zero = some z) (hsize : i.size = sz) (hby : i.bytes = by_) (hzs : z.cells.size = sz) (hsz0 : 0 < sz) (hby1 : by_ ≤ 100000)
    (hcv : ∀ x, (cv x).length = sz) (h1 : ∀ (x : α), ∀ u ∈ cv x, u.oneCell' = true) (w0 : World) (v : Value) (xs : List α) (hs : a.eval s = v) (hown : OwnR e sz cv w0 w v xs) (sv : Value) (hx : a.eval x = sv) (ys : List α) (hl : RowsAt sz cv w sv ys) (hsz : xs.length + ys.length ≤ 1000000000)
    (h : ∀ p c w', OwnR e sz cv w0 w' (.slice p (xs.length + ys.length) c) (xs ++ ys) → Grown w v p (xs.length + ys.length) c w' → K (a.put o.dst (.slice p (xs.length + ys.length) c)) w') : Oper.wp P o a w K Q := by
  obtain ⟨sp, sc, rfl, hp, -, hlr⟩ := hl
  have hb : (xs.length + ys.length) * by_ ≤ 1000000000 * 100000 := Nat.mul_le_mul hsz hby1
  have fin : ∀ {ad : Addr} {c2 : Nat}, a.eval x = .slice (some ad) ys.length c2 → (∀ j u, (rowCells cv ys)[j]? = some u → w.cell? (ad.add j) = some u) → Oper.wp P o a w K Q := by
    intro ad c2 hx hcl
    obtain ⟨v', w', hr, h2, h3, h4⟩ := run_append_sep (P := P) w t o.type e i z sz by_ ht hi hz hsize hby hzs hsz0 v xs.length (rowCells cv xs) hown.1 ad ys.length c2 (rowCells cv ys) (by rw [rowCells_len hcv]) hcl (fun u hu => by
      unfold rowCells at hu
      obtain ⟨y, _, hy⟩ := List.mem_flatMap.1 hu
      exact h1 y u hy) (by unfold maxLen; omega) (by omega)
    obtain ⟨p, c, rfl⟩ := ownsRow_slice h2
    unfold Oper.wp execOp
    simp only [ho, resolve, invoke, builtin, Sem.run_bind, Sem.run_pure, Result.andThen_ok, List.map_toArray, List.map_cons, List.map_nil, hs, hx, hr]
    refine h p c w' ⟨by rw [rowCells_app, List.length_append]; exact h2, fun k e => ?_, Nat.le_trans hown.2.2 h3.size⟩ ⟨(Keeps.refl _ _).grown h3 (fun k e => .inl e), h4⟩
    rcases h4 k e with e | e
    · exact hown.2.1 k e
    · exact Nat.le_trans hown.2.2 e
  cases sp with
  | none =>
    have h0 : ys.length = 0 := by
      rcases Nat.eq_zero_or_pos ys.length with h | h
      · exact h
      · obtain ⟨b, o, e, _⟩ := hlr h; cases e
    have hc := hp rfl
    subst hc
    have hl0 : ys = [] := List.length_eq_zero_iff.1 h0
    subst hl0
    obtain ⟨p, c, rfl⟩ := hown.slice
    have hrun := run_append_owned_none (P := P) (w := w) 0 t o.type e i sz ht hi (.slice p xs.length c) xs.length (rowCells cv xs) hown.1
    have hh := h p c w (by simpa using hown) ⟨Keeps.refl _ _, fun k e => .inl e⟩
    unfold Oper.wp
    simp [execOp, ho, resolve, invoke, builtin, hs, hx, hrun, Result.andThen]
    exact hh
  | some ad =>
    refine fin hx (fun j u hu => ?_)
    have h0 : 0 < ys.length := by
      have := (List.getElem?_eq_some_iff.1 hu).1
      rw [rowCells_len hcv] at this
      exact Nat.pos_of_ne_zero fun e => by rw [e] at this; omega
    obtain ⟨g, o2, e, hr⟩ := hlr h0
    injection e with e; subst e
    rw [Addr.add_mid]
    exact rowCells_at (v := .bool true) hcv hsz0 ys hr j u hu
end
end Go.Proofs.Ytmclnamgihphcaa
/- conf.Set, walked: where there is room, and where there isn't (gen_cfi.py). -/
set_option linter.unusedVariables false
set_option linter.unusedSimpArgs false
namespace Go.Proofs.Ytmclnamgihphcaa
open Go.RowKit

theorem lineVals_len (l : LineD) : (lineVals l).length = 4 := rfl
theorem lineVals_one (l : LineD) : ∀ u ∈ lineVals l, u.oneCell' = true := by
  intro u hu; simp [lineVals, strv] at hu; rcases hu with rfl | rfl | rfl | rfl <;> rfl
theorem RowsAt.lines {w : World} {v : Value} {ls : List LineD} (h : RowsAt 4 lineVals w v ls) : LinesAt w v ls := by
  obtain ⟨p, c, rfl, -, -, hr⟩ := h
  exact ⟨p, c, rfl, hr⟩
theorem lineAll : ∃ i, Try.prog.info? 53 = some i ∧ i.zero = some (.agg #[.int .i64 0, .string ⟨#[]⟩, .string ⟨#[]⟩, .string ⟨#[]⟩]) ∧ i.size = 4 ∧ i.bytes = 56 := by
  have h : (Try.prog.info? 53).map (fun i => (i.zero, i.size, i.bytes)) = some (some (.agg #[.int .i64 0, .string ⟨#[]⟩, .string ⟨#[]⟩, .string ⟨#[]⟩]), 4, 56) := by kernel_rfl
  obtain ⟨i, hi, e⟩ := Option.map_eq_some_iff.1 h
  injection e with e1 e; injection e with e2 e3
  exact ⟨i, hi, e1, e2, e3⟩
/-- make of rows of no length -/
theorem wp_make_r {α : Type} {sz : Nat} {cv : α → List Value} {P : Program} {w : World} {o : Oper} {a : Act} {K : Act → World → Prop} {Q : Exit → Act → World → Prop} (l c : Operand) (t : TypeId) (ho : o.op = .makeSlice t l c) (e : TypeId) (i : TypeInfo) (z : Value)
    (ht : P.underlying t = some (.slice e)) (hi : P.info? e = some i) (hz : i.zero = some z) (hsize : i.size = sz) (by_ : Nat) (hby : i.bytes = by_) (hby1 : by_ ≤ 100000) (n : Nat) (C : Int) (hC : C = (n : Int)) (hl : a.eval l = .int .i64 0) (hc : a.eval c = .int .i64 C) (hn : n ≤ 1000000000)
    (h : ∀ w', OwnR (α := α) e sz cv w w' (.slice (some ⟨w.heap.size, 0, none⟩) 0 n) [] → Keeps (fun _ => False) w w' → K (a.put o.dst (.slice (some ⟨w.heap.size, 0, none⟩) 0 n)) w') : Oper.wp P o a w K Q := by
  subst hC
  subst hby
  have hb : i.bytes * n ≤ 100000 * 1000000000 := Nat.mul_le_mul hby1 hn
  obtain ⟨w', hrun, r1, r2⟩ := run_make_own (P := P) w 0 t e i z sz ht hi hz hsize .i64 .i64 n (by omega) (by unfold maxLen; omega) (Nat.zero_le _)
  unfold Oper.wp
  simp [execOp, ho, hl, hc, hrun, Result.andThen]
  refine h w' ⟨by simpa [rowCells] using r1, fun k e => ?_, r2.size⟩ ((Keeps.refl _ _).grown r2 (fun k e => by cases e))
  simp only [Value.ownBlock, Option.some.injEq] at e
  omega
theorem wpList_append_rows {α : Type} {sz : Nat} {cv : α → List Value} {P : Program} {w : World} {ops : Array Oper} {rest : List Oper} {o : Oper} {a : Act} {Q : Exit → Act → World → Prop} (hgd : o.guard = none) (s x : Operand) (t e : TypeId)
    (ho : o.op = .call { callee := .builtin .append, args := #[s, x], argTypes := #[t, t] })
    (i : TypeInfo) (z : Value) (by_ : Nat) (ht : P.underlying t = some (.slice e)) (hi : P.info? e = some i) (hz : i.zero = some z) (hsize : i.size = sz) (hby : i.bytes = by_) (hzs : z.cells.size = sz) (hsz0 : 0 < sz) (hby1 : by_ ≤ 100000)
    (hcv : ∀ x, (cv x).length = sz) (h1 : ∀ (x : α), ∀ u ∈ cv x, u.oneCell' = true) (w0 : World) (v : Value) (xs : List α) (hs : a.eval s = v) (hown : OwnR e sz cv w0 w v xs) (sv : Value) (hx : a.eval x = sv) (ys : List α) (hl : RowsAt sz cv w sv ys) (hsz : xs.length + ys.length ≤ 1000000000)
    (h : ∀ p c w', Hid (OwnR e sz cv w0 w' (.slice p (xs.length + ys.length) c) (xs ++ ys)) → Hid (Grown w v p (xs.length + ys.length) c w') → wpList P ops Q rest (a.put o.dst (.slice p (xs.length + ys.length) c)) w') : wpList P ops Q (o :: rest) a w :=
  wpList_plain hgd fun _ hK => wp_append_rows s x t e ho i z by_ ht hi hz hsize hby hzs hsz0 hby1 hcv h1 w0 v xs hs hown sv hx ys hl hsz (fun p c w' h1 h2 => hK _ _ (h p c w' (Lib.hid h1) (Lib.hid h2)))

/-- lines of the call's own, and no error -/
def SetPost (ls : List LineD) (w : World) (e : Ending) (w' : World) : Prop :=
  ∃ p c, e = .returned (.tuple #[.slice p ls.length c, .int .i64 0]) ∧ OwnR 53 4 lineVals w w' (.slice p ls.length c) ls ∧ Keeps (fun _ => False) w w'
end Go.Proofs.Ytmclnamgihphcaa
