/- Commands, plain: what parse.Read answers, and that the document's way to it is the same. -/
import Derived.Test.YtfflgbpppcfamaaDoorSCN
namespace Go.Proofs.YtfflgbpppcfamaaDoor
open Go.RowKit

/-- a command -/
structure CmdD where
  what : Int
  head : Int
  name : List UInt8
  leaf : List UInt8
  value : List UInt8
  n : Int
def cmdVals (c : CmdD) : List Value := [.int .i64 c.what, .int .i64 c.head, strv c.name, strv c.leaf, strv c.value, .int .i64 c.n]
def noCmd : CmdD := ⟨0, 0, [], [], [], 0⟩
def verbsL : List (List UInt8) := [[], [115, 101, 116], [100, 101, 108, 101, 116, 101], [115, 104, 111, 119], [99, 111, 109, 112, 97, 114, 101], [99, 104, 101, 99, 107], [99, 111, 109, 109, 105, 116], [99, 111, 109, 109, 105, 116, 45, 99, 111, 110, 102, 105, 114, 109, 101, 100], [99, 111, 110, 102, 105, 114, 109], [114, 111, 108, 108, 98, 97, 99, 107]]
def verbD (w : List UInt8) : Nat := (verbsL.findIdx? (· == w)).getD 0
def areaW : List UInt8 := [97, 114, 101, 97]
def faceW : List UInt8 := [105, 110, 116, 101, 114, 102, 97, 99, 101]
def headD (w : List UInt8) : Int := if w = areaW then 1 else if w = faceW then 2 else 0
def pathD : List (List UInt8) → Option (Int × List UInt8 × List UInt8)
  | [l] => if (findD 0 l).isSome then some (0, [], l) else none
  | [h, n] => if headD h ≠ 0 ∧ namedB (headD h) n = true then some (headD h, n, []) else none
  | [h, n, l] => if headD h ≠ 0 ∧ namedB (headD h) n = true then (if (findD (headD h) l).isSome then some (headD h, n, l) else none) else none
  | _ => none
def numD (rest : List (List UInt8)) (lo hi : Int) : Option Int :=
  match rest with
  | [w] => match decL w with | some n => if lo ≤ (n : Int) ∧ (n : Int) ≤ hi then some (n : Int) else none | none => none
  | _ => none
def rightV (head : Int) (leaf value : List UInt8) : Bool := match findD head leaf with | some r => rightB r.kind r.lo r.hi r.cs value | none => false
def settingD (rest : List (List UInt8)) : Option CmdD :=
  match pathD rest.dropLast with
  | some (h, n, l) => if rightV h l (rest.getLastD []) then some ⟨1, h, n, l, rest.getLastD [], 0⟩ else none
  | none => none
def cmdD (v : List UInt8) (rest : List (List UInt8)) : Option CmdD :=
  if verbD v = 0 then none
  else if verbD v = 1 then settingD rest
  else if verbD v = 2 then (pathD rest).map fun p => ⟨2, p.1, p.2.1, p.2.2, [], 0⟩
  else if verbD v = 7 then (numD rest 1 65535).map fun n => ⟨7, 0, [], [], [], n⟩
  else if verbD v = 9 then (numD rest 0 5).map fun n => ⟨9, 0, [], [], [], n⟩
  else if rest = [] then some ⟨verbD v, 0, [], [], [], 0⟩ else none
def wordsD : List (List UInt8) → Option CmdD
  | [] => none
  | v :: rest => cmdD v rest
/-- what Read answers -/
def readD (t : List UInt8) : Option CmdD := match lexL t with | .ok l => wordsD l | .bad _ => none

/-! the document's way -/
def signW (w : List UInt8) : Bool := w == [123] || (w == [125] || w == [59])
def docSD (what : Int) (rest : List (List UInt8)) : Option CmdD :=
  match rest with
  | [] => none
  | h :: r =>
    if headD h = 0 then docIn what 0 [] rest
    else match r with
      | [] => none
      | n :: r2 => if namedB (headD h) n = true then (if what = 2 ∧ r2 = [] then some ⟨2, headD h, n, [], [], 0⟩ else docIn what (headD h) n r2) else none
where
  docIn (what head : Int) (name : List UInt8) (rest : List (List UInt8)) : Option CmdD :=
    match rest with
    | [l] => if what = 2 then (if (findD head l).isSome then some ⟨2, head, name, l, [], 0⟩ else none) else none
    | [l, v] => if what = 1 then (match findD head l with | some r => if rightB r.kind r.lo r.hi r.cs v = true then some ⟨1, head, name, l, v, 0⟩ else none | none => none) else none
    | _ => none
theorem path0 : pathD [] = none := rfl
theorem path1 (l : List UInt8) : pathD [l] = if (findD 0 l).isSome then some (0, [], l) else none := rfl
theorem path2 (h n : List UInt8) : pathD [h, n] = if headD h ≠ 0 ∧ namedB (headD h) n = true then some (headD h, n, []) else none := rfl
theorem path3 (h n l : List UInt8) : pathD [h, n, l] = if headD h ≠ 0 ∧ namedB (headD h) n = true then (if (findD (headD h) l).isSome then some (headD h, n, l) else none) else none := rfl
theorem path4 (a b c d : List UInt8) (r : List (List UInt8)) : pathD (a :: b :: c :: d :: r) = none := rfl
theorem num1 (w : List UInt8) (lo hi : Int) : numD [w] lo hi = match decL w with | some n => if lo ≤ (n : Int) ∧ (n : Int) ≤ hi then some (n : Int) else none | none => none := rfl
theorem doc1 (what : Int) (h : List UInt8) (r : List (List UInt8)) : docSD what (h :: r) = if headD h = 0 then docSD.docIn what 0 [] (h :: r)
    else match r with
      | [] => none
      | n :: r2 => if namedB (headD h) n = true then (if what = 2 ∧ r2 = [] then some ⟨2, headD h, n, [], [], 0⟩ else docSD.docIn what (headD h) n r2) else none := rfl
theorem docin0 (what head : Int) (name : List UInt8) : docSD.docIn what head name [] = none := rfl
theorem docin1 (what head : Int) (name l : List UInt8) : docSD.docIn what head name [l] = if what = 2 then (if (findD head l).isSome then some ⟨2, head, name, l, [], 0⟩ else none) else none := rfl
theorem docin2 (what head : Int) (name l v : List UInt8) : docSD.docIn what head name [l, v] = if what = 1 then (match findD head l with | some r => if rightB r.kind r.lo r.hi r.cs v = true then some ⟨1, head, name, l, v, 0⟩ else none | none => none) else none := rfl
theorem docin3 (what head : Int) (name a b c : List UInt8) (r : List (List UInt8)) : docSD.docIn what head name (a :: b :: c :: r) = none := rfl
theorem sign_head {w : List UInt8} (h : signW w = true) : headD w = 0 := by
  unfold signW at h
  simp only [Bool.or_eq_true, beq_iff_eq] at h
  rcases h with rfl | rfl | rfl <;> decide
theorem sign_verb {w : List UInt8} (h : signW w = true) : verbD w = 0 := by
  unfold signW at h
  simp only [Bool.or_eq_true, beq_iff_eq] at h
  rcases h with rfl | rfl | rfl <;> decide
theorem sign_find {w : List UInt8} (h : signW w = true) (head : Int) : findD head w = none := by
  unfold signW at h
  simp only [Bool.or_eq_true, beq_iff_eq] at h
  unfold findD
  rw [List.find?_eq_none]
  intro q hq
  simp only [decide_eq_true_eq, not_and]
  intro _ e
  unfold tableD at hq
  simp only [List.mem_cons, List.not_mem_nil, or_false] at hq
  rcases h with rfl | rfl | rfl <;> rcases hq with rfl | rfl | rfl | rfl | rfl | rfl | rfl | rfl | rfl | rfl | rfl | rfl <;> simp at e
theorem sign_word {w : List UInt8} (h : signW w = true) : isWordB w = false := by
  unfold signW at h
  simp only [Bool.or_eq_true, beq_iff_eq] at h
  rcases h with rfl | rfl | rfl <;> decide
theorem sign_addr {w : List UInt8} (h : signW w = true) : addrL w = none := by
  unfold signW at h
  simp only [Bool.or_eq_true, beq_iff_eq] at h
  rcases h with rfl | rfl | rfl <;> decide +kernel
theorem sign_net {w : List UInt8} (h : signW w = true) : netL w = none := by
  unfold signW at h
  simp only [Bool.or_eq_true, beq_iff_eq] at h
  rcases h with rfl | rfl | rfl <;> decide +kernel
theorem signW_dec {w : List UInt8} (h : signW w = true) : decL w = none := by
  unfold signW at h
  simp only [Bool.or_eq_true, beq_iff_eq] at h
  rcases h with rfl | rfl | rfl <;> decide +kernel
theorem sign_named {w : List UInt8} (h : signW w = true) (head : Int) (h0 : head ≠ 0) : namedB head w = false := by
  unfold namedB
  rw [if_neg h0, sign_addr h, sign_word h]
  split
  · rfl
  · split <;> rfl
theorem sign_right {w : List UInt8} (h : signW w = true) {head : Int} {leaf : List UInt8} {r : RowD} (hf : findD head leaf = some r) : rightB r.kind r.lo r.hi r.cs w = false := by
  have hm := List.mem_of_find?_eq_some hf
  have hc : r.cs.contains w = false := by
    unfold signW at h
    simp only [Bool.or_eq_true, beq_iff_eq] at h
    unfold tableD at hm
    simp only [List.mem_cons, List.not_mem_nil, or_false] at hm
    rcases h with rfl | rfl | rfl <;> rcases hm with rfl | rfl | rfl | rfl | rfl | rfl | rfl | rfl | rfl | rfl | rfl | rfl <;> decide
  unfold rightB
  rw [sign_addr h, sign_net h, signW_dec h, sign_word h, hc]
  split
  · rfl
  · split
    · rfl
    · split
      · rfl
      · split
        · rfl
        · split
          · simp
          · rfl
theorem path_sign {rest : List (List UInt8)} {w : List UInt8} (hw : w ∈ rest) (h : signW w = true) : pathD rest = none := by
  match rest, hw with
  | [l], hw =>
    simp only [List.mem_cons, List.not_mem_nil, or_false] at hw
    subst hw
    rw [path1, sign_find h]; rfl
  | [a, b], hw =>
    simp only [List.mem_cons, List.not_mem_nil, or_false] at hw
    rw [path2]
    rcases hw with rfl | rfl
    · rw [sign_head h, if_neg (by simp)]
    · by_cases h0 : headD a = 0
      · rw [if_neg (by simp [h0])]
      · rw [sign_named h _ h0, if_neg (by simp)]
  | [a, b, c], hw =>
    simp only [List.mem_cons, List.not_mem_nil, or_false] at hw
    rw [path3]
    rcases hw with rfl | rfl | rfl
    · rw [sign_head h, if_neg (by simp)]
    · by_cases h0 : headD a = 0
      · rw [if_neg (by simp [h0])]
      · rw [sign_named h _ h0, if_neg (by simp)]
    · rw [sign_find h]
      split <;> rfl
  | a :: b :: c :: d :: r, _ => rfl
theorem num_sign {rest : List (List UInt8)} {w : List UInt8} (hw : w ∈ rest) (h : signW w = true) (lo hi : Int) : numD rest lo hi = none := by
  match rest, hw with
  | [l], hw =>
    simp only [List.mem_cons, List.not_mem_nil, or_false] at hw
    subst hw
    rw [num1, signW_dec h]
  | a :: b :: r, _ => rfl
theorem setting_sign {rest : List (List UInt8)} {w : List UInt8} (hw : w ∈ rest) (h : signW w = true) : settingD rest = none := by
  unfold settingD
  have hne : rest ≠ [] := by rintro rfl; cases hw
  have e : rest = rest.dropLast ++ [rest.getLastD []] := by
    rw [List.getLastD_eq_getLast?, List.getLast?_eq_some_getLast hne]
    exact (List.dropLast_concat_getLast hne).symm
  rw [e] at hw
  rcases List.mem_append.1 hw with h1 | h1
  · rw [path_sign h1 h]
  · simp only [List.mem_cons, List.not_mem_nil, or_false] at h1
    cases hp : pathD rest.dropLast with
    | none => rfl
    | some p =>
      obtain ⟨hd, n, l⟩ := p
      have : rightV hd l (rest.getLastD []) = false := by
        unfold rightV
        cases hf : findD hd l with
        | none => rfl
        | some r => rw [← h1]; exact sign_right h hf
      simp only [this]
      rfl
/-- the document's way, whole -/
def docD (ws : List (List UInt8)) : Option CmdD :=
  match ws with
  | [] => none
  | v :: rest =>
    if ws.any signW = true then none
    else if verbD v = 3 ∨ verbD v = 4 ∨ verbD v = 5 ∨ verbD v = 6 ∨ verbD v = 8 then (if rest = [] then some ⟨verbD v, 0, [], [], [], 0⟩ else none)
    else if verbD v = 7 ∧ rest.length = 1 then (numD rest 1 65535).map fun n => ⟨7, 0, [], [], [], n⟩
    else if verbD v = 9 ∧ rest.length = 1 then (numD rest 0 5).map fun n => ⟨9, 0, [], [], [], n⟩
    else if (verbD v ≠ 1 ∧ verbD v ≠ 2) ∨ rest = [] then none
    else docSD (verbD v) rest
theorem verb_lt (w : List UInt8) : verbD w < 10 := by
  unfold verbD
  cases h : verbsL.findIdx? (· == w) with
  | none => simp
  | some i =>
    have := (List.findIdx?_eq_some_iff_getElem.1 h).1
    simpa [verbsL] using this
theorem num_len {rest : List (List UInt8)} {lo hi : Int} (h : rest.length ≠ 1) : numD rest lo hi = none := by
  match rest, h with
  | [], _ => rfl
  | [_], h => exact absurd rfl h
  | _ :: _ :: _, _ => rfl
theorem find_headD (w : List UInt8) (h : headD w ≠ 0) : findD 0 w = none := by
  have hr : findD 0 areaW = none ∧ findD 0 faceW = none := ⟨rfl, rfl⟩
  unfold headD at h
  split at h
  · rename_i e; rw [e]; exact hr.1
  · split at h
    · rename_i e; rw [e]; exact hr.2
    · exact absurd rfl h
theorem find_nil (w : List UInt8) : findD (headD w) [] = none := by
  unfold headD; split
  · rfl
  · split <;> rfl
theorem doc_delete (rest : List (List UInt8)) (hne : rest ≠ []) : docSD 2 rest = (pathD rest).map fun p => ⟨2, p.1, p.2.1, p.2.2, [], 0⟩ := by
  match rest, hne with
  | [a], _ =>
    rw [doc1, path1]
    by_cases h : headD a = 0
    · rw [if_pos h, docin1, if_pos rfl]
      split <;> rfl
    · rw [if_neg h, find_headD a h]; rfl
  | [a, b], _ =>
    rw [doc1, path2]
    by_cases h : headD a = 0
    · rw [if_pos h, if_neg (by simp [h]), docin2, if_neg (by decide)]; rfl
    · rw [if_neg h]
      by_cases hn : namedB (headD a) b = true
      · simp [hn, h]
      · simp [hn]
  | [a, b, c], _ =>
    rw [doc1, path3]
    by_cases h : headD a = 0
    · rw [if_pos h, if_neg (by simp [h]), docin3]; rfl
    · rw [if_neg h]
      by_cases hn : namedB (headD a) b = true
      · simp only [hn, if_true]
        rw [if_neg (by simp), if_pos ⟨h, trivial⟩, docin1, if_pos rfl]
        split <;> rfl
      · simp [hn]
  | a :: b :: c :: d :: r, _ =>
    rw [doc1, path4]
    by_cases h : headD a = 0
    · rw [if_pos h, docin3]; rfl
    · rw [if_neg h]
      by_cases hn : namedB (headD a) b = true
      · simp only [hn, if_true]
        rw [if_neg (by simp)]
        cases r with
        | nil => rw [docin2, if_neg (by decide)]; rfl
        | cons e r => rw [docin3]; rfl
      · simp [hn]
theorem doc_set (rest : List (List UInt8)) (hne : rest ≠ []) : docSD 1 rest = settingD rest := by
  match rest, hne with
  | [a], _ =>
    rw [doc1]
    unfold settingD
    rw [show ([a] : List (List UInt8)).dropLast = [] from rfl, path0]
    by_cases h : headD a = 0
    · rw [if_pos h, docin1, if_neg (by decide)]
    · rw [if_neg h]
  | [a, b], _ =>
    rw [doc1]
    unfold settingD
    rw [show ([a, b] : List (List UInt8)).dropLast = [a] from rfl, show ([a, b] : List (List UInt8)).getLastD [] = b from rfl, path1]
    by_cases h : headD a = 0
    · rw [if_pos h, docin2, if_pos rfl]
      cases hf : findD 0 a with
      | none => simp
      | some r =>
        have e : rightV 0 a b = rightB r.kind r.lo r.hi r.cs b := by unfold rightV; rw [hf]
        simp [e]
    · rw [if_neg h, find_headD a h]
      by_cases hn : namedB (headD a) b = true
      · simp only [hn, if_true]
        rw [if_neg (by simp), docin0]; rfl
      · simp [hn]
  | [a, b, c], _ =>
    rw [doc1]
    unfold settingD
    rw [show ([a, b, c] : List (List UInt8)).dropLast = [a, b] from rfl, show ([a, b, c] : List (List UInt8)).getLastD [] = c from rfl, path2]
    by_cases h : headD a = 0
    · rw [if_pos h, docin3, if_neg (by simp [h])]
    · rw [if_neg h]
      by_cases hn : namedB (headD a) b = true
      · simp only [hn, if_true]
        rw [if_neg (by simp), if_pos ⟨h, trivial⟩, docin1, if_neg (by decide)]
        have e : rightV (headD a) [] c = false := by unfold rightV; rw [find_nil]
        simp [e]
      · simp [hn]
  | [a, b, c, d], _ =>
    rw [doc1]
    unfold settingD
    rw [show ([a, b, c, d] : List (List UInt8)).dropLast = [a, b, c] from rfl, show ([a, b, c, d] : List (List UInt8)).getLastD [] = d from rfl, path3]
    by_cases h : headD a = 0
    · rw [if_pos h, docin3, if_neg (by simp [h])]
    · rw [if_neg h]
      by_cases hn : namedB (headD a) b = true
      · simp only [hn, if_true]
        rw [if_neg (by simp), if_pos ⟨h, trivial⟩, docin2, if_pos rfl]
        cases hf : findD (headD a) c with
        | none => simp
        | some r =>
          have e : rightV (headD a) c d = rightB r.kind r.lo r.hi r.cs d := by unfold rightV; rw [hf]
          simp [e]
      · simp [hn]
  | a :: b :: c :: d :: e :: r, _ =>
    rw [doc1]
    unfold settingD
    rw [show (a :: b :: c :: d :: e :: r : List (List UInt8)).dropLast = a :: b :: c :: d :: (e :: r).dropLast from rfl, path4]
    by_cases h : headD a = 0
    · rw [if_pos h, docin3]
    · rw [if_neg h]
      by_cases hn : namedB (headD a) b = true
      · simp only [hn, if_true]
        rw [if_neg (by simp), docin3]
      · simp [hn]
theorem doc_words (ws : List (List UInt8)) : docD ws = wordsD ws := by
  cases ws with
  | nil => rfl
  | cons v rest =>
    unfold docD wordsD
    simp only
    by_cases hs : (v :: rest).any signW = true
    · rw [if_pos hs]
      obtain ⟨w, hw, h⟩ := List.any_eq_true.1 hs
      unfold cmdD
      rcases List.mem_cons.1 hw with rfl | hw
      · rw [if_pos (sign_verb h)]
      · have hne : rest ≠ [] := by rintro rfl; cases hw
        rw [setting_sign hw h, path_sign hw h, num_sign hw h, num_sign hw h, if_neg hne]
        simp
    · rw [if_neg hs]
      unfold cmdD
      have hv := verb_lt v
      generalize verbD v = k at hv ⊢
      have hk : k = 0 ∨ k = 1 ∨ k = 2 ∨ k = 3 ∨ k = 4 ∨ k = 5 ∨ k = 6 ∨ k = 7 ∨ k = 8 ∨ k = 9 := by omega
      by_cases hne : rest = []
      · subst hne
        rcases hk with rfl | rfl | rfl | rfl | rfl | rfl | rfl | rfl | rfl | rfl <;> simp [settingD, pathD, numD]
      · rcases hk with rfl | rfl | rfl | rfl | rfl | rfl | rfl | rfl | rfl | rfl
        · simp
        · simp [hne]; exact doc_set rest hne
        · simp [hne]; exact doc_delete rest hne
        · simp
        · simp
        · simp
        · simp
        · by_cases hl : rest.length = 1
          · simp [hl]
          · simp [hl, num_len hl]
        · simp
        · by_cases hl : rest.length = 1
          · simp [hl]
          · simp [hl, num_len hl]
end Go.Proofs.YtfflgbpppcfamaaDoor
