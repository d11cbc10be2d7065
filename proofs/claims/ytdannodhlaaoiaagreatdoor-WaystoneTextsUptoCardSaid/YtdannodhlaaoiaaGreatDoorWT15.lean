/- Bytes in memory, in blocks of their own or not; numbers as bytes; steps through a drawn region. -/
import Derived.Test.YtdannodhlaaoiaaGreatDoorWT09
import Derived.Laws.IdiomStrings
import Derived.Lib.Strings
import Derived.Laws.Cover3
import Derived.Laws.AppendOwnNone
set_option linter.unusedVariables false
set_option linter.unusedSimpArgs false
namespace Go.Proofs.YtdannodhlaaoiaaGreatDoor
open Go.RowKit

theorem u8Info : (Tryz.prog.info? 5).map (·.size) = some 1 := by kernel_rfl
theorem u8InfoAll : (Tryz.prog.info? 5).map (fun i => (i.zero, i.size, i.bytes)) = some (some (.int .u8 0), 1, 1) := by kernel_rfl
def bv (x : UInt8) : Value := .int .u8 x.toNat
theorem bv_one (l : List UInt8) : ∀ v ∈ l.map bv, v.oneCell' = true := by
  intro v hv; obtain ⟨x, _, rfl⟩ := List.mem_map.1 hv; rfl

/-- a block of so many cells of a type, none frozen -/
def World.blockAt (w : World) (g : Nat) (t : TypeId) (n : Nat) : Prop := ∃ C : Array Value, w.heap[g]? = some (.cells C t (0, 0)) ∧ C.size = n
theorem World.blockAt.lt {w : World} {g t n : Nat} (h : World.blockAt w g t n) : g < w.heap.size := by obtain ⟨C, h, _⟩ := h; exact lt_of_block h
theorem World.blockAt.setCell {w : World} {g t n : Nat} (h : World.blockAt w g t n) (p : Addr) (v : Value) : World.blockAt (w.setCell p v) g t n := by
  obtain ⟨C, h, hn⟩ := h
  by_cases e : g = p.block
  · subst e
    obtain ⟨b, o, s⟩ := p
    refine ⟨if s.isSome then C else C.setIfInBounds o v, ?_, by split <;> simpa using hn⟩
    have hlt := lt_of_block h
    simp only [World.setCell, Array.getElem?_modify]
    simp [h]
  · exact ⟨C, by rw [heap_setCell_other w p g v e]; exact h, hn⟩
theorem World.blockAt.setCells {g t n : Nat} (b : Nat) : ∀ (vs : List Value) (o : Nat) (w : World), World.blockAt w g t n → World.blockAt (w.setCells b o vs) g t n
  | [], _, _, h => h
  | v :: r, o, w, h => by rw [World.setCells]; exact World.blockAt.setCells b r (o + 1) _ (h.setCell _ v)
theorem World.blockAt.there {w : World} {g t n : Nat} (h : World.blockAt w g t n) (o m : Nat) (hm : o + m ≤ n) : w.there g o m := by
  obtain ⟨C, h, hn⟩ := h
  intro j hj
  refine ⟨?_, ?_⟩
  · simp [World.cell?, h]; omega
  · simp [World.frozen?, h]
theorem World.blockAt.frozen {w : World} {g t n : Nat} (h : World.blockAt w g t n) (o : Nat) : w.frozen? ⟨g, o, none⟩ = false := by
  obtain ⟨C, h, _⟩ := h; simp [World.frozen?, h]
theorem World.blockAt.keep {F : Nat → Prop} {w w' : World} {g t n : Nat} (h : World.blockAt w g t n) (k : Keeps F w w') (hF : ¬ F g) : World.blockAt w' g t n := by
  have hl := h.lt
  obtain ⟨C, h, hn⟩ := h
  exact ⟨C, by rw [k.block g hl hF]; exact h, hn⟩

/-- a slice of bytes reads as these -/
def BytesAt (w : World) (v : Value) (x : List UInt8) : Prop :=
  ∃ p c, v = .slice p x.length c ∧ (p = none → c = 0) ∧ x.length ≤ c ∧ (0 < x.length → ∃ b o, p = some ⟨b, o, none⟩ ∧ w.rangeAt b o (x.map bv))
theorem BytesAt.keepF {F : Nat → Prop} {w w' : World} {v : Value} {x : List UInt8} (h : BytesAt w v x) (k : Keeps F w w') (hF : 0 < x.length → ∀ i, v.ownBlock = some i → ¬ F i) : BytesAt w' v x := by
  obtain ⟨p, c, rfl, hp, hc, h⟩ := h
  exact ⟨p, c, rfl, hp, hc, fun h0 => by obtain ⟨b, o, rfl, hr⟩ := h h0; exact ⟨b, o, rfl, k.rangeAt hr (hF h0 b rfl)⟩⟩
theorem BytesAt.keep {w w' : World} {v : Value} {x : List UInt8} (h : BytesAt w v x) (k : Keeps (fun _ => False) w w') : BytesAt w' v x := h.keepF k (fun _ _ _ f => f)
theorem BytesAt.nil (w : World) : BytesAt w (.slice none 0 0) [] := ⟨none, 0, rfl, fun _ => rfl, Nat.le_refl _, fun h => by simp at h⟩
theorem BytesAt.of {w : World} {g o n c : Nat} {x : List UInt8} (hn : x.length = n) (hc : n ≤ c) (h : w.rangeAt g o (x.map bv)) : BytesAt w (.slice (some ⟨g, o, none⟩) n c) x :=
  ⟨some ⟨g, o, none⟩, c, by rw [hn], (fun h => nomatch h), by omega, fun _ => ⟨g, o, rfl, h⟩⟩
theorem range_part {w : World} {g o : Nat} {x : List UInt8} (h : w.rangeAt g o (x.map bv)) (i n : Nat) : w.rangeAt g (o + i) (((x.drop i).take n).map bv) := fun j u hu => by
  rw [List.map_take, List.getElem?_take] at hu
  split at hu
  · rw [List.map_drop, List.getElem?_drop] at hu
    have := h (i + j) u hu
    rw [Nat.add_assoc]; exact this
  · cases hu
/-- l over the bytes of x from i on -/
def patch (x : List UInt8) (i : Nat) (l : List UInt8) : List UInt8 := x.take i ++ l ++ x.drop (i + l.length)
theorem patch_len (x : List UInt8) (i : Nat) (l : List UInt8) (h : i + l.length ≤ x.length) : (patch x i l).length = x.length := by
  unfold patch; simp; omega
theorem patch_nil (x : List UInt8) (i : Nat) : patch x i [] = x := by unfold patch; simp
theorem patch_get (x : List UInt8) (i : Nat) (l : List UInt8) (h : i + l.length ≤ x.length) (j : Nat) : (patch x i l)[j]? = if i ≤ j ∧ j < i + l.length then l[j - i]? else x[j]? := by
  unfold patch
  rw [List.append_assoc, List.getElem?_append, List.getElem?_append, List.getElem?_take, List.getElem?_drop]
  have h1 : (x.take i).length = i := by simp; omega
  rw [h1]
  by_cases hj : j < i
  · rw [if_pos hj, if_pos hj, if_neg (by omega)]
  · rw [if_neg hj]
    by_cases hj2 : j - i < l.length
    · rw [if_pos hj2, if_pos (by omega)]
    · rw [if_neg hj2, if_neg (by omega)]; congr 1; omega
theorem patch_cons (x : List UInt8) (i : Nat) (l : List UInt8) (b : UInt8) (h : i + 1 + l.length ≤ x.length) : (patch x (i + 1) l).set i b = patch x i (b :: l) := by
  apply List.ext_getElem?
  intro j
  rw [List.getElem?_set, patch_get _ _ _ h, patch_get _ _ _ (by simp; omega), patch_len _ _ _ h]
  simp only [List.length_cons]
  by_cases hj : i = j
  · subst hj
    rw [if_pos rfl, if_pos (by omega), if_pos (by omega)]; simp
  · rw [if_neg hj]
    by_cases h2 : i + 1 ≤ j ∧ j < i + 1 + l.length
    · rw [if_pos h2, if_pos (by omega)]
      rw [show j - i = (j - (i + 1)) + 1 by omega]; simp
    · rw [if_neg h2, if_neg (by omega)]

/-- k bytes of n, the highest first -/
def be : Nat → Nat → List UInt8
  | 0, _ => []
  | k + 1, n => UInt8.ofNat (n / 256 ^ k) :: be k n
theorem be_len (k n : Nat) : (be k n).length = k := by
  induction k with
  | zero => rfl
  | succ k ih => simp [be, ih]
def beVal (l : List UInt8) : Nat := l.foldl (fun n c => n * 256 + c.toNat) 0

/-- a block that is these bytes -/
def BufAt (w : World) (g : Nat) (x : List UInt8) : Prop := w.heap[g]? = some (.cells (x.map bv).toArray 5 (0, 0))
theorem BufAt.lt {w : World} {g : Nat} {x : List UInt8} (h : BufAt w g x) : g < w.heap.size := lt_of_block h
theorem BufAt.keep {F : Nat → Prop} {w w' : World} {g : Nat} {x : List UInt8} (h : BufAt w g x) (k : Keeps F w w') (hF : ¬ F g) : BufAt w' g x := by
  unfold BufAt; rw [k.block g h.lt hF]; exact h
theorem BufAt.range {w : World} {g : Nat} {x : List UInt8} (h : BufAt w g x) : w.rangeAt g 0 (x.map bv) := fun j u hu => by
  have h : w.heap[g]? = _ := h
  simp [World.cell?, h]; simpa using hu
theorem BufAt.part {w : World} {g : Nat} {x : List UInt8} (h : BufAt w g x) (o n : Nat) : w.rangeAt g o (((x.drop o).take n).map bv) := fun j u hu => by
  rw [List.map_take, List.getElem?_take] at hu
  split at hu
  · rw [List.map_drop, List.getElem?_drop] at hu
    have := h.range (o + j) u hu
    simpa using this
  · cases hu
theorem BufAt.frozen {w : World} {g : Nat} {x : List UInt8} (h : BufAt w g x) (o : Nat) : w.frozen? ⟨g, o, none⟩ = false := by
  have h : w.heap[g]? = _ := h
  simp [World.frozen?, h]
theorem BufAt.there {w : World} {g : Nat} {x : List UInt8} (h : BufAt w g x) (o n : Nat) (hn : o + n ≤ x.length) : w.there g o n :=
  World.blockAt.there (t := 5) (n := x.length) ⟨_, h, by simp⟩ o n hn
theorem BufAt.set {w : World} {g : Nat} {x : List UInt8} (h : BufAt w g x) (i : Nat) (b : UInt8) : BufAt (w.setCell ⟨g, i, none⟩ (bv b)) g (x.set i b) := by
  unfold BufAt
  rw [heap_put h]
  simp
theorem BufAt.sets {g : Nat} : ∀ (l : List UInt8) (o : Nat) (x : List UInt8) (w : World), BufAt w g x → o + l.length ≤ x.length → BufAt (w.setCells g o (l.map bv)) g (patch x o l)
  | [], o, x, w, h, _ => by rw [patch_nil]; exact h
  | b :: l, o, x, w, h, hl => by
    simp only [List.length_cons] at hl
    have h1 := BufAt.sets l (o + 1) (x.set o b) (w.setCell ⟨g, o, none⟩ (bv b)) (h.set o b) (by simp; omega)
    have e : patch (x.set o b) (o + 1) l = patch x o (b :: l) := by
      apply List.ext_getElem?
      intro j
      rw [patch_get _ _ _ (by simp; omega), patch_get _ _ _ (by simp; omega)]
      simp only [List.length_cons]
      by_cases hj : o ≤ j ∧ j < o + (l.length + 1)
      · rw [if_pos hj]
        by_cases hj2 : o = j
        · subst hj2; rw [if_neg (by omega), List.getElem?_set, if_pos rfl, if_pos (by omega)]; simp
        · rw [if_pos (by omega), show j - o = (j - (o + 1)) + 1 by omega]; simp
      · rw [if_neg hj, if_neg (by omega), List.getElem?_set, if_neg (by omega)]
    rw [e] at h1
    exact h1

/-- laid over the bytes of a block -/
def Laid (g o : Nat) (x l : List UInt8) (w w' : World) : Prop := BufAt w' g (patch x o l) ∧ Keeps (fun k => k = g) w w'

theorem BufAt.cell {w : World} {g : Nat} {x : List UInt8} (h : BufAt w g x) (i : Nat) (hi : i < x.length) : w.cell? ⟨g, i, none⟩ = some (bv x[i]) := by
  have := h.range i (bv x[i]) (by simp [hi])
  simpa using this
theorem bv_ofNat (m : Nat) : Value.int .u8 ((m : Int) % 256) = bv (UInt8.ofNat m) := by
  unfold bv; congr 1
theorem Laid.next {g o i k n : Nat} {x : List UInt8} {w wr : World} (h : Laid g (o + (i + 1)) x (be k n) w wr) (ho : o + (i + 1) + k ≤ x.length) : Laid g (o + i) x (be (k + 1) n) w (wr.setCell ⟨g, o + i, none⟩ (.int .u8 (((n / 256 ^ k : Nat) : Int) % 256))) := by
  rw [bv_ofNat]
  refine ⟨?_, h.2.setCell (.inl rfl) _⟩
  have h1 := h.1.set (o + i) (UInt8.ofNat (n / 256 ^ k))
  rw [show o + (i + 1) = o + i + 1 by omega, patch_cons _ _ _ _ (by rw [be_len]; omega)] at h1
  exact h1
theorem Laid.start {g o : Nat} {x : List UInt8} {w : World} (h : BufAt w g x) (n : Nat) : Laid g o x (be 0 n) w w := ⟨by unfold be; rw [patch_nil]; exact h, Keeps.refl _ _⟩

theorem beVal_foldl (l : List UInt8) : ∀ n : Nat, l.foldl (fun n c => n * 256 + c.toNat) n = n * 256 ^ l.length + beVal l := by
  unfold beVal
  induction l with
  | nil => intro n; simp
  | cons c l ih =>
    intro n
    rw [List.foldl_cons, List.foldl_cons, ih, ih (0 * 256 + c.toNat), List.length_cons, Nat.pow_succ]
    rw [Nat.add_mul, Nat.zero_mul, Nat.zero_add, Nat.mul_assoc, Nat.mul_comm 256]; omega
theorem beVal_cons (c : UInt8) (l : List UInt8) : beVal (c :: l) = c.toNat * 256 ^ l.length + beVal l := by
  show l.foldl (fun n c => n * 256 + c.toNat) (0 * 256 + c.toNat) = _
  rw [beVal_foldl]; simp
theorem beVal_snoc (l : List UInt8) (c : UInt8) : beVal (l ++ [c]) = beVal l * 256 + c.toNat := by unfold beVal; rw [List.foldl_append]; rfl
theorem beVal_lt (l : List UInt8) : beVal l < 256 ^ l.length := by
  induction l with
  | nil => simp [beVal]
  | cons c l ih =>
    rw [beVal_cons, List.length_cons, Nat.pow_succ]
    have := c.toNat_lt
    have h2 : c.toNat * 256 ^ l.length ≤ 255 * 256 ^ l.length := Nat.mul_le_mul_right _ (by omega)
    omega
theorem beVal_be (k n : Nat) : beVal (be k n) = n % 256 ^ k := by
  induction k with
  | zero => simp [be, beVal, Nat.mod_one]
  | succ k ih =>
    rw [be, beVal_cons, be_len, ih]
    have e : (UInt8.ofNat (n / 256 ^ k)).toNat = n / 256 ^ k % 256 := by simp
    rw [e, Nat.pow_succ, Nat.mod_mul, Nat.mul_comm]; omega
theorem be_beVal (l : List UInt8) : be l.length (beVal l) = l := by
  suffices h : ∀ (l : List UInt8) (m : Nat), be l.length (m * 256 ^ l.length + beVal l) = l by simpa using h l 0
  intro l
  induction l with
  | nil => intro m; rfl
  | cons c l ih =>
    intro m
    have hb := beVal_lt l
    have hp : 0 < 256 ^ l.length := Nat.pow_pos (by omega)
    rw [List.length_cons, be, beVal_cons]
    have e1 : m * 256 ^ (l.length + 1) + (c.toNat * 256 ^ l.length + beVal l) = (m * 256 + c.toNat) * 256 ^ l.length + beVal l := by
      rw [Nat.pow_succ, Nat.add_mul, Nat.mul_assoc, Nat.mul_comm (256 ^ l.length)]; omega
    rw [e1, ih (m * 256 + c.toNat)]
    have e2 : ((m * 256 + c.toNat) * 256 ^ l.length + beVal l) / 256 ^ l.length = m * 256 + c.toNat := by
      rw [Nat.add_comm, Nat.add_mul_div_right _ _ hp, Nat.div_eq_of_lt hb]; omega
    rw [e2]
    congr 1
    apply UInt8.toNat_inj.mp
    have := c.toNat_lt
    simp
theorem or_low (m : Nat) (c : UInt8) : (m * 256) ||| c.toNat = m * 256 + c.toNat := by
  have h := Nat.two_pow_add_eq_or_of_lt (i := 8) (b := c.toNat) c.toNat_lt m
  rw [show (2 : Nat) ^ 8 * m = m * 256 by omega] at h
  exact h.symm

def noughts (n : Nat) : List UInt8 := List.replicate n 0
theorem noughts_len (n : Nat) : (noughts n).length = n := by unfold noughts; simp

/-- a new block with these bytes -/
def NewBuf (x : List UInt8) (w : World) (e : Ending) (w' : World) : Prop := ∃ g, e = .returned (.slice (some ⟨g, 0, none⟩) x.length x.length) ∧ w.heap.size ≤ g ∧ BufAt w' g x ∧ Keeps (fun _ => False) w w'

/-- make([]byte, n) -/
theorem made_noughts {w w1 : World} {n : Nat} (ho : w1.ownsRow 0 5 1 (.slice (some ⟨w.heap.size, 0, none⟩) n n) n (madeCells (Value.int .u8 0).cells (n * 1)).toList) : BufAt w1 w.heap.size (noughts n) := by
  rcases ho.2 with ⟨h, _⟩ | ⟨g, cap, cur, he, _, hg, _, _, hcs, ht⟩
  · cases h
  · injection he with h1 h2 h3
    injection h1 with h1
    injection h1 with h1
    subst h1; subst h3
    unfold BufAt
    rw [hg]
    have e : cur.toList = (noughts n).map bv := by
      have hm : (madeCells (Value.int .u8 0).cells (n * 1)).toList = (noughts n).map bv := by
        rw [Nat.mul_one]; unfold noughts; rw [List.map_replicate]; exact toList_madeCells_one (.int .u8 0) n
      rw [hm] at ht
      rw [← ht, List.take_of_length_le]
      rw [Array.length_toList, hcs]; omega
    rw [← e]
theorem made_noughts1 {w w1 : World} {ob : Obj} {n : Nat} (ho : w1.ownsRow 0 5 1 (.slice (some ⟨(w.alloc ob).heap.size, 0, none⟩) n n) n (madeCells (Value.int .u8 0).cells (n * 1)).toList) : BufAt w1 (w.heap.size + 1) (noughts n) := by
  have e : (w.alloc ob).heap.size = w.heap.size + 1 := by simp
  rw [← e]; exact made_noughts ho
theorem run_copy_str {P : Program} (w : World) (dT sT ty elem : TypeId) (b o dLen dCap : Nat) (s : ByteArray) (l : List UInt8)
    (hu : P.underlying dT = some (.slice elem)) (hs : (P.info? elem).map (·.size) = some 1) (hl : s.data.toList = l) (hd : l.length ≤ dLen) (hth : w.there b o l.length) :
    (Builtin.copy_ #[dT, sT] ty #[.slice (some ⟨b, o, none⟩) dLen dCap, .string s]).run P w = .ok (goInt l.length) (w.setCells b o (l.map bv)) := by
  have hst := run_storeCells_cells (P := P) b o (l.map bv) 0 w (fun j hj => by simpa using (hth j (by simpa using hj)).1) (fun j hj => by simpa using (hth j (by simpa using hj)).2) (bv_one l)
  have hsz : s.size = l.length := by rw [← hl]; rfl
  have hmin : s.size.min dLen = l.length := by rw [hsz]; exact Nat.min_eq_left hd
  have hcs : List.take l.length (List.map (fun b : UInt8 => Value.int .u8 b.toNat) s.data.toList) = l.map bv := by rw [hl, List.take_of_length_le (by simp)]; rfl
  cases hq : P.info? elem with
  | none => simp [hq] at hs
  | some i =>
    have hst' : Sem.run P (storeCells { block := b, off := o } (l.map bv)) w = .ok () (w.setCells b o (l.map bv)) := by simpa using hst
    simp [Builtin.copy_, run_underlying hu, Builtin.lenOf, Builtin.firstCells, sizeOf, typeInfo, hq, hmin, hcs, hst']

/-- copies into a block of bytes, the world behind under a name -/
theorem wpList_copy_str {P : Program} {w : World} {ops : Array Oper} {rest : List Oper} {o : Oper} {a : Act} {Q : Exit → Act → World → Prop} (hgd : o.guard = none) (d s : Operand) (dT sT : TypeId)
    (ho : o.op = .call { callee := .builtin .copy, args := #[d, s], argTypes := #[dT, sT] }) (elem : TypeId) (hu : P.underlying dT = some (.slice elem)) (hsz : (P.info? elem).map (·.size) = some 1)
    (g off dLen dCap : Nat) (st : ByteArray) (hd : a.eval d = .slice (some ⟨g, off, none⟩) dLen dCap) (hs : a.eval s = .string st) (x l : List UInt8) (hl : st.data.toList = l) (hdl : l.length ≤ dLen)
    (hb : BufAt w g x) (hx : off + l.length ≤ x.length)
    (h : ∀ w1, Hid (Laid g off x l w w1) → wpList P ops Q rest (a.put o.dst (goInt l.length)) w1) : wpList P ops Q (o :: rest) a w := by
  refine wpList_plain hgd fun K hK => ?_
  have hrun := run_copy_str (P := P) w dT sT o.type elem g off dLen dCap st l hu hsz hl hdl (hb.there off _ hx)
  have h' := h _ (Lib.hid ⟨hb.sets l off x w hx, Keeps.setCells (F := fun k => k = g) (.inl rfl) _ _ _ (Keeps.refl _ _)⟩)
  unfold Oper.wp
  simp [execOp, ho, resolve, invoke, builtin, hd, hs, hrun, Result.andThen]
  exact hK _ _ h'
theorem wpList_copy_buf {P : Program} {w : World} {ops : Array Oper} {rest : List Oper} {o : Oper} {a : Act} {Q : Exit → Act → World → Prop} (hgd : o.guard = none) (d s : Operand) (dT sT : TypeId)
    (ho : o.op = .call { callee := .builtin .copy, args := #[d, s], argTypes := #[dT, sT] }) (elem : TypeId) (hu : P.underlying dT = some (.slice elem)) (hsz : (P.info? elem).map (·.size) = some 1)
    (g off dLen dCap : Nat) (sb so sLen sCap : Nat) (hd : a.eval d = .slice (some ⟨g, off, none⟩) dLen dCap) (hs : a.eval s = .slice (some ⟨sb, so, none⟩) sLen sCap) (x l : List UInt8) (hl : l.length = sLen) (hdl : sLen ≤ dLen)
    (hb : BufAt w g x) (hx : off + l.length ≤ x.length) (hsrc : w.rangeAt sb so (l.map bv))
    (h : ∀ w1, Hid (Laid g off x l w w1) → wpList P ops Q rest (a.put o.dst (goInt l.length)) w1) : wpList P ops Q (o :: rest) a w := by
  have e : (l.map bv).length = l.length := by simp
  refine wpList_copy_cells hgd d s dT sT ho elem hu hsz g off dLen dCap ⟨sb, so, none⟩ sLen sCap hd hs (l.map bv) (by rw [e, hl]; exact (Nat.min_eq_left hdl).symm) (fun j v hv => by rw [Addr.add_mid]; exact hsrc j v hv) (by rw [e]; exact hb.there off _ hx) (bv_one l) ?_
  rw [e]
  exact h _ (Lib.hid ⟨hb.sets l off x w hx, Keeps.setCells (F := fun k => k = g) (.inl rfl) _ _ _ (Keeps.refl _ _)⟩)

theorem patch_one (x : List UInt8) (i : Nat) (b : UInt8) (h : i < x.length) : patch x i [b] = x.set i b := by
  rw [← patch_cons x i [] b (by simp; omega), patch_nil]
theorem BufAt.bytes {w : World} {g : Nat} {x : List UInt8} (h : BufAt w g x) (o n c : Nat) (hn : n = ((x.drop o).take n).length) (hc : n ≤ c) : BytesAt w (.slice (some ⟨g, o, none⟩) n c) ((x.drop o).take n) :=
  ⟨some ⟨g, o, none⟩, c, by rw [← hn], (fun h => nomatch h), by omega, fun _ => ⟨g, o, rfl, h.part o n⟩⟩

theorem Laid.other {g o : Nat} {x l : List UInt8} {w w' : World} (h : Laid g o x l w w') {b i : Nat} {v : Value} (hc : w.cell? ⟨b, i, none⟩ = some v) (hb : b ≠ g) : w'.cell? ⟨b, i, none⟩ = some v := by
  rw [h.2.cell (p := ⟨b, i, none⟩) (World.block_lt_of_cell? w _ hc) hb]; exact hc
theorem param2 {w w1 : World} {a b : Value} {t : TypeId} (k : Keeps (fun _ => False) (w.alloc (.cells #[a, b] t)) w1) : w1.cell? ⟨w.heap.size, 0, none⟩ = some a ∧ w1.cell? ⟨w.heap.size, 1, none⟩ = some b := by
  have hb := heap_alloc_last w (.cells #[a, b] t)
  have h0 : (w.alloc (.cells #[a, b] t)).cell? ⟨w.heap.size, 0, none⟩ = some a := by unfold World.cell?; simp only [hb]; rfl
  have h1 : (w.alloc (.cells #[a, b] t)).cell? ⟨w.heap.size, 1, none⟩ = some b := by unfold World.cell?; simp only [hb]; rfl
  exact ⟨by rw [k.cell (p := ⟨w.heap.size, 0, none⟩) (World.block_lt_of_cell? _ _ h0) id]; exact h0, by rw [k.cell (p := ⟨w.heap.size, 1, none⟩) (World.block_lt_of_cell? _ _ h1) id]; exact h1⟩
def PC (b : Nat) (v : Value) (W : World) : Prop := W.cell? ⟨b, 0, none⟩ = some v
theorem PC.cell {b : Nat} {v : Value} : ∀ W : World, PC b v W → W.cell? ⟨b, 0, none⟩ = some v := fun _ h => h
theorem ne_succ (n : Nat) : n ≠ n + 1 := by omega

theorem Laid.one {w : World} {g : Nat} {x : List UInt8} (h : BufAt w g x) (i : Nat) (b : UInt8) (hi : i < x.length) : Laid g i x [b] w (w.setCell ⟨g, i, none⟩ (bv b)) :=
  ⟨by rw [patch_one _ _ _ hi]; exact h.set i b, (Keeps.refl (fun k => k = g) w).setCell (.inl rfl) _⟩
/-- what was laid into a new block -/
theorem Keeps.laid {a w w' : World} {g o : Nat} {x l : List UInt8} (k : Keeps (fun _ => False) a w) (h : Laid g o x l w w') (hg : a.heap.size ≤ g) : Keeps (fun _ => False) a w' := k.trans' h.2 (fun i e => .inr (by rw [e]; exact hg))

/-- string(b), as the walk meets it -/
theorem conv_str (g o c : Nat) (l : List UInt8) (W : World) (h : W.rangeAt g o (l.map bv)) : (convert 31 9 (.slice (some ⟨g, o, none⟩) l.length c)).run Tryz.prog W = .ok (.string ⟨l.toArray⟩) W :=
  run_convert_bytes_back W 31 9 5 ⟨g, o, none⟩ c l Tryz.underlying31 Tryz.underlying5 Tryz.underlying9 (fun j hj => by
    rw [Addr.add_mid]; have := h j (.int .u8 (l[j].toNat)) (by simp [hj, bv]); exact this)
theorem conv_nil (W : World) : (convert 31 9 (.slice none 0 0)).run Tryz.prog W = .ok (.string ⟨#[]⟩) W := by
  rw [run_convert_bytes_string W 31 9 5 none 0 0 Tryz.underlying31 Tryz.underlying5 Tryz.underlying9]; rfl
theorem conv_bytes {W : World} {v : Value} {x : List UInt8} (h : BytesAt W v x) (h0 : 0 < x.length) : (convert 31 9 v).run Tryz.prog W = .ok (.string ⟨x.toArray⟩) W := by
  obtain ⟨p, c, rfl, -, -, h⟩ := h
  obtain ⟨g, o, rfl, hr⟩ := h h0
  exact conv_str g o c _ W hr

theorem eql_nil (a : Addr) (l c : Nat) (w : World) : (binOp .eql 31 (.slice (some a) l c) (.slice none 0 0)).run Tryz.prog w = .ok (.bool false) w := by
  simp [binOp, run_equal_slice_nil w 31 _ (some a) l c Tryz.underlying31]
/-- new bytes, wherever they lie -/
def NewBytes (x : List UInt8) (w : World) (e : Ending) (w' : World) : Prop := ∃ v, e = .returned v ∧ BytesAt w' v x ∧ (∀ k, v.ownBlock = some k → w.heap.size ≤ k) ∧ Keeps (fun _ => False) w w'
theorem owns_empty (w : World) : (w.alloc (.cells #[] 5)).ownsRow 0 5 1 (.slice (some ⟨w.heap.size, 0, none⟩) 0 0) 0 [] :=
  ⟨rfl, .inr ⟨w.heap.size, 0, #[], rfl, Nat.zero_le _, heap_alloc_last w _, Nat.le_refl _, Nat.zero_le _, rfl, rfl⟩⟩
theorem owns_bytes {w : World} {p : Option Addr} {n c : Nat} {x : List UInt8} (h : w.ownsRow 0 5 1 (.slice p n c) n (x.map bv)) : BytesAt w (.slice p n c) x := by
  have hl : x.length = n := by have := h.1; simpa using this
  subst hl
  rcases h.2 with ⟨e, h2⟩ | ⟨g, cap, cur, he, _, _, hle, _⟩
  · injection e with e1 e2 e3; subst e1; subst e3
    exact ⟨none, 0, rfl, fun _ => rfl, by omega, fun h0 => by omega⟩
  · injection he with e1 e2 e3
    subst e1; subst e3
    refine ⟨_, _, rfl, fun h => (by cases h), hle, fun h0 => ⟨g, 0, rfl, fun j u hu => ?_⟩⟩
    have := h.cells (g := g) rfl j u hu
    rw [Addr.add_mid] at this
    exact this

/-- bytes of the call's own: no older block is part of them -/
def OwnB (w0 w : World) (v : Value) (xs : List UInt8) : Prop :=
  w.ownsRow 0 5 1 v xs.length (xs.map bv) ∧ (∀ k, v.ownBlock = some k → w0.heap.size ≤ k) ∧ w0.heap.size ≤ w.heap.size
theorem OwnB.nil (w0 w : World) (h : w0.heap.size ≤ w.heap.size) : OwnB w0 w (.slice none 0 0) [] := ⟨⟨rfl, .inl ⟨rfl, rfl⟩⟩, by simp [Value.ownBlock], h⟩
theorem OwnB.slice {w0 w : World} {v : Value} {xs : List UInt8} (h : OwnB w0 w v xs) : ∃ p c, v = .slice p xs.length c := ownsRow_slice h.1
theorem OwnB.bytes {w0 w : World} {v : Value} {xs : List UInt8} (h : OwnB w0 w v xs) : BytesAt w v xs := by
  obtain ⟨p, c, rfl⟩ := h.slice
  exact owns_bytes h.1
theorem OwnB.keep {F : Nat → Prop} {w0 w w' : World} {v : Value} {xs : List UInt8} (h : OwnB w0 w v xs) (k : Keeps F w w') (hF : ∀ i, v.ownBlock = some i → ¬ F i) : OwnB w0 w' v xs :=
  ⟨k.ownsRow h.1 hF, h.2.1, Nat.le_trans h.2.2 k.size⟩
theorem OwnB.older {w0 w1 w : World} {v : Value} {xs : List UInt8} (h : OwnB w1 w v xs) (hs : w0.heap.size ≤ w1.heap.size) : OwnB w0 w v xs := ⟨h.1, fun k e => Nat.le_trans hs (h.2.1 k e), Nat.le_trans hs h.2.2⟩
theorem OwnB.empty (w0 w : World) (h : w0.heap.size ≤ w.heap.size) : OwnB w0 (w.alloc (.cells #[] 5)) (.slice (some ⟨w.heap.size, 0, none⟩) 0 0) [] :=
  ⟨owns_empty w, fun k e => by simp only [Value.ownBlock, Option.some.injEq] at e; omega, by simp; omega⟩
/-- a new block of bytes -/
theorem OwnB.new (w0 w : World) (h : w0.heap.size ≤ w.heap.size) (l : List UInt8) {n : Nat} (hn : l.length = n) (hm : n ≤ maxLen) : OwnB w0 (w.alloc (.cells (l.map bv).toArray 5)) (.slice (some ⟨w.heap.size, 0, none⟩) n n) l := by
  subst hn
  refine ⟨⟨by simp, .inr ⟨w.heap.size, l.length, (l.map bv).toArray, rfl, Nat.zero_le _, heap_alloc_last w _, Nat.le_refl _, hm, by simp, ?_⟩⟩, fun k e => by simp only [Value.ownBlock, Option.some.injEq] at e; omega, by simp; omega⟩
  rw [List.take_of_length_le (by simp)]
/-- what an append makes -/
structure Grown (w : World) (v : Value) (p : Option Addr) (n c : Nat) (w' : World) : Prop where
  k : Keeps (fun k => v.ownBlock = some k) w w'
  s : ∀ k, (Value.slice p n c).ownBlock = some k → v.ownBlock = some k ∨ w.heap.size ≤ k
/-- bytes of whatever source behind bytes of the call's own -/
theorem wpList_append_b {P : Program} {w : World} {ops : Array Oper} {rest : List Oper} {o : Oper} {a : Act} {Q : Exit → Act → World → Prop} (hgd : o.guard = none) (s x : Operand) (t : TypeId)
    (ho : o.op = .call { callee := .builtin .append, args := #[s, x], argTypes := #[t, t] })
    (i : TypeInfo) (ht : P.underlying t = some (.slice 5)) (hi : P.info? 5 = some i) (hz : i.zero = some (.int .u8 0)) (hsize : i.size = 1) (hby : i.bytes = 1)
    (w0 : World) (v : Value) (xs : List UInt8) (hs : a.eval s = v) (hown : OwnB w0 w v xs) (sv : Value) (hx : a.eval x = sv) (l : List UInt8) (hl : BytesAt w sv l) (hsz : xs.length + l.length ≤ 70368744177664)
    (h : ∀ p c w', Hid (OwnB w0 w' (.slice p (xs.length + l.length) c) (xs ++ l)) → Hid (Grown w v p (xs.length + l.length) c w') → wpList P ops Q rest (a.put o.dst (.slice p (xs.length + l.length) c)) w') : wpList P ops Q (o :: rest) a w := by
  obtain ⟨sp, sc, rfl, hp, -, hlr⟩ := hl
  cases sp with
  | none =>
    have h0 : l.length = 0 := by
      rcases Nat.eq_zero_or_pos l.length with h | h
      · exact h
      · obtain ⟨b, o, e, _⟩ := hlr h; cases e
    have hc := hp rfl
    subst hc
    have hl0 : l = [] := List.length_eq_zero_iff.1 h0
    subst hl0
    obtain ⟨p, c, rfl⟩ := hown.slice
    refine wpList_append_own_none hgd s x t ho 0 5 i 1 ht hi _ xs.length (xs.map bv) hs hown.1 hx ?_
    exact h p c w (Lib.hid (by simpa using hown)) (Lib.hid ⟨Keeps.refl _ _, fun k e => .inl e⟩)
  | some ad =>
    refine wpList_append_sep hgd s x t ho 5 i (.int .u8 0) 1 1 ht hi hz hsize hby rfl (by decide) v xs.length (xs.map bv) hs hown.1 ad l.length sc (l.map bv) hx (by simp) (fun j u hu => ?_) (bv_one l) (by unfold maxLen; omega) (by omega) ?_
    · have h0 : 0 < l.length := by
        have := (List.getElem?_eq_some_iff.1 hu).1; simp at this; omega
      obtain ⟨b, o, e, hr⟩ := hlr h0
      injection e with e; subst e
      rw [Addr.add_mid]; exact hr j u hu
    · intro p c w' h1 h2 h3
      refine h p c w' (Lib.hid ⟨by simpa using h1, fun k e => ?_, Nat.le_trans hown.2.2 h2.size⟩) (Lib.hid ⟨(Keeps.refl _ _).grown h2 (fun k e => .inl e), h3.out⟩)
      rcases h3.out k e with e | e
      · exact hown.2.1 k e
      · exact Nat.le_trans hown.2.2 e
end Go.Proofs.YtdannodhlaaoiaaGreatDoor
