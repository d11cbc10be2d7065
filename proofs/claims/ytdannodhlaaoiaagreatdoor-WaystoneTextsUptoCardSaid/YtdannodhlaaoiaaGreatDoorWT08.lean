/- Commands, plain: what parse.Read answers, and that the document's way to it is the same. -/
import Derived.Test.YtdannodhlaaoiaaGreatDoorWT07
set_option linter.unusedVariables false
set_option linter.unusedSimpArgs false
namespace Go.Proofs.YtdannodhlaaoiaaGreatDoor
open Go.RowKit

/-- a command -/
structure CmdD where
  what : Int
  head : Int
  name : List UInt8
  leaf : List UInt8
  value : List UInt8
  n : Int
def cmdVals (c : CmdD) : List Value := [.int .i64 c.what, .int .i64 c.head, strv c.name, strv c.leaf, strv c.value, .int .i64 c.n]
def noCmd : CmdD := ⟨0, 0, [], [], [], 0⟩
def verbsL : List (List UInt8) := [[], [115, 101, 116], [100, 101, 108, 101, 116, 101], [115, 104, 111, 119], [99, 111, 109, 112, 97, 114, 101], [99, 104, 101, 99, 107], [99, 111, 109, 109, 105, 116], [99, 111, 109, 109, 105, 116, 45, 99, 111, 110, 102, 105, 114, 109, 101, 100], [99, 111, 110, 102, 105, 114, 109], [114, 111, 108, 108, 98, 97, 99, 107]]
def verbD (w : List UInt8) : Nat := (verbsL.findIdx? (· == w)).getD 0
def areaW : List UInt8 := [97, 114, 101, 97]
def faceW : List UInt8 := [105, 110, 116, 101, 114, 102, 97, 99, 101]
def headD (w : List UInt8) : Int := if w = areaW then 1 else if w = faceW then 2 else 0
def pathD : List (List UInt8) → Option (Int × List UInt8 × List UInt8)
  | [l] => if (findD 0 l).isSome then some (0, [], l) else none
  | [h, n] => if headD h ≠ 0 ∧ namedB (headD h) n = true then some (headD h, n, []) else none
  | [h, n, l] => if headD h ≠ 0 ∧ namedB (headD h) n = true then (if (findD (headD h) l).isSome then some (headD h, n, l) else none) else none
  | _ => none
def numD (rest : List (List UInt8)) (lo hi : Int) : Option Int :=
  match rest with
  | [w] => match decL w with | some n => if lo ≤ (n : Int) ∧ (n : Int) ≤ hi then some (n : Int) else none | none => none
  | _ => none
def rightV (head : Int) (leaf value : List UInt8) : Bool := match findD head leaf with | some r => rightB r.kind r.lo r.hi r.cs value | none => false
def settingD (rest : List (List UInt8)) : Option CmdD :=
  match pathD rest.dropLast with
  | some (h, n, l) => if rightV h l (rest.getLastD []) then some ⟨1, h, n, l, rest.getLastD [], 0⟩ else none
  | none => none
def cmdD (v : List UInt8) (rest : List (List UInt8)) : Option CmdD :=
  if verbD v = 0 then none
  else if verbD v = 1 then settingD rest
  else if verbD v = 2 then (pathD rest).map fun p => ⟨2, p.1, p.2.1, p.2.2, [], 0⟩
  else if verbD v = 7 then (numD rest 1 65535).map fun n => ⟨7, 0, [], [], [], n⟩
  else if verbD v = 9 then (numD rest 0 5).map fun n => ⟨9, 0, [], [], [], n⟩
  else if rest = [] then some ⟨verbD v, 0, [], [], [], 0⟩ else none
def wordsD : List (List UInt8) → Option CmdD
  | [] => none
  | v :: rest => cmdD v rest
/-- what Read answers -/
def readD (t : List UInt8) : Option CmdD := match lexL t with | .ok l => wordsD l | .bad _ => none

/-! the document's way -/
def signW (w : List UInt8) : Bool := w == [123] || (w == [125] || w == [59])
def docSD (what : Int) (rest : List (List UInt8)) : Option CmdD :=
  match rest with
  | [] => none
  | h :: r =>
    if headD h = 0 then docIn what 0 [] rest
    else match r with
      | [] => none
      | n :: r2 => if namedB (headD h) n = true then (if what = 2 ∧ r2 = [] then some ⟨2, headD h, n, [], [], 0⟩ else docIn what (headD h) n r2) else none
where
  docIn (what head : Int) (name : List UInt8) (rest : List (List UInt8)) : Option CmdD :=
    match rest with
    | [l] => if what = 2 then (if (findD head l).isSome then some ⟨2, head, name, l, [], 0⟩ else none) else none
    | [l, v] => if what = 1 then (match findD head l with | some r => if rightB r.kind r.lo r.hi r.cs v = true then some ⟨1, head, name, l, v, 0⟩ else none | none => none) else none
    | _ => none
theorem path0 : pathD [] = none := rfl
theorem path1 (l : List UInt8) : pathD [l] = if (findD 0 l).isSome then some (0, [], l) else none := rfl
theorem path2 (h n : List UInt8) : pathD [h, n] = if headD h ≠ 0 ∧ namedB (headD h) n = true then some (headD h, n, []) else none := rfl
theorem path3 (h n l : List UInt8) : pathD [h, n, l] = if headD h ≠ 0 ∧ namedB (headD h) n = true then (if (findD (headD h) l).isSome then some (headD h, n, l) else none) else none := rfl
theorem path4 (a b c d : List UInt8) (r : List (List UInt8)) : pathD (a :: b :: c :: d :: r) = none := rfl
theorem num1 (w : List UInt8) (lo hi : Int) : numD [w] lo hi = match decL w with | some n => if lo ≤ (n : Int) ∧ (n : Int) ≤ hi then some (n : Int) else none | none => none := rfl
theorem doc1 (what : Int) (h : List UInt8) (r : List (List UInt8)) : docSD what (h :: r) = if headD h = 0 then docSD.docIn what 0 [] (h :: r)
    else match r with
      | [] => none
      | n :: r2 => if namedB (headD h) n = true then (if what = 2 ∧ r2 = [] then some ⟨2, headD h, n, [], [], 0⟩ else docSD.docIn what (headD h) n r2) else none := rfl
theorem docin0 (what head : Int) (name : List UInt8) : docSD.docIn what head name [] = none := rfl
theorem docin1 (what head : Int) (name l : List UInt8) : docSD.docIn what head name [l] = if what = 2 then (if (findD head l).isSome then some ⟨2, head, name, l, [], 0⟩ else none) else none := rfl
theorem docin2 (what head : Int) (name l v : List UInt8) : docSD.docIn what head name [l, v] = if what = 1 then (match findD head l with | some r => if rightB r.kind r.lo r.hi r.cs v = true then some ⟨1, head, name, l, v, 0⟩ else none | none => none) else none := rfl
theorem docin3 (what head : Int) (name a b c : List UInt8) (r : List (List UInt8)) : docSD.docIn what head name (a :: b :: c :: r) = none := rfl
theorem sign_head {w : List UInt8} (h : signW w = true) : headD w = 0 := by
  unfold signW at h
  simp only [Bool.or_eq_true, beq_iff_eq] at h
  rcases h with rfl | rfl | rfl <;> decide
theorem sign_verb {w : List UInt8} (h : signW w = true) : verbD w = 0 := by
  unfold signW at h
  simp only [Bool.or_eq_true, beq_iff_eq] at h
  rcases h with rfl | rfl | rfl <;> decide
theorem sign_find {w : List UInt8} (h : signW w = true) (head : Int) : findD head w = none := by
  unfold signW at h
  simp only [Bool.or_eq_true, beq_iff_eq] at h
  unfold findD
  rw [List.find?_eq_none]
  intro q hq
  simp only [decide_eq_true_eq, not_and]
  intro _ e
  unfold tableD at hq
  simp only [List.mem_cons, List.not_mem_nil, or_false] at hq
  rcases h with rfl | rfl | rfl <;> rcases hq with rfl | rfl | rfl | rfl | rfl | rfl | rfl | rfl | rfl | rfl | rfl | rfl <;> simp at e
theorem sign_word {w : List UInt8} (h : signW w = true) : isWordB w = false := by
  unfold signW at h
  simp only [Bool.or_eq_true, beq_iff_eq] at h
  rcases h with rfl | rfl | rfl <;> decide
theorem sign_addr {w : List UInt8} (h : signW w = true) : addrL w = none := by
  unfold signW at h
  simp only [Bool.or_eq_true, beq_iff_eq] at h
  rcases h with rfl | rfl | rfl <;> decide +kernel
theorem sign_net {w : List UInt8} (h : signW w = true) : netL w = none := by
  unfold signW at h
  simp only [Bool.or_eq_true, beq_iff_eq] at h
  rcases h with rfl | rfl | rfl <;> decide +kernel
theorem signW_dec {w : List UInt8} (h : signW w = true) : decL w = none := by
  unfold signW at h
  simp only [Bool.or_eq_true, beq_iff_eq] at h
  rcases h with rfl | rfl | rfl <;> decide +kernel
theorem sign_named {w : List UInt8} (h : signW w = true) (head : Int) (h0 : head ≠ 0) : namedB head w = false := by
  unfold namedB
  rw [if_neg h0, sign_addr h, sign_word h]
  split
  · rfl
  · split <;> rfl
theorem sign_right {w : List UInt8} (h : signW w = true) {head : Int} {leaf : List UInt8} {r : RowD} (hf : findD head leaf = some r) : rightB r.kind r.lo r.hi r.cs w = false := by
  have hm := List.mem_of_find?_eq_some hf
  have hc : r.cs.contains w = false := by
    unfold signW at h
    simp only [Bool.or_eq_true, beq_iff_eq] at h
    unfold tableD at hm
    simp only [List.mem_cons, List.not_mem_nil, or_false] at hm
    rcases h with rfl | rfl | rfl <;> rcases hm with rfl | rfl | rfl | rfl | rfl | rfl | rfl | rfl | rfl | rfl | rfl | rfl <;> decide
  unfold rightB
  rw [sign_addr h, sign_net h, signW_dec h, sign_word h, hc]
  split
  · rfl
  · split
    · rfl
    · split
      · rfl
      · split
        · rfl
        · split
          · simp
          · rfl
theorem path_sign {rest : List (List UInt8)} {w : List UInt8} (hw : w ∈ rest) (h : signW w = true) : pathD rest = none := by
  match rest, hw with
  | [l], hw =>
    simp only [List.mem_cons, List.not_mem_nil, or_false] at hw
    subst hw
    rw [path1, sign_find h]; rfl
  | [a, b], hw =>
    simp only [List.mem_cons, List.not_mem_nil, or_false] at hw
    rw [path2]
    rcases hw with rfl | rfl
    · rw [sign_head h, if_neg (by simp)]
    · by_cases h0 : headD a = 0
      · rw [if_neg (by simp [h0])]
      · rw [sign_named h _ h0, if_neg (by simp)]
  | [a, b, c], hw =>
    simp only [List.mem_cons, List.not_mem_nil, or_false] at hw
    rw [path3]
    rcases hw with rfl | rfl | rfl
    · rw [sign_head h, if_neg (by simp)]
    · by_cases h0 : headD a = 0
      · rw [if_neg (by simp [h0])]
      · rw [sign_named h _ h0, if_neg (by simp)]
    · rw [sign_find h]
      split <;> rfl
  | a :: b :: c :: d :: r, _ => rfl
theorem num_sign {rest : List (List UInt8)} {w : List UInt8} (hw : w ∈ rest) (h : signW w = true) (lo hi : Int) : numD rest lo hi = none := by
  match rest, hw with
  | [l], hw =>
    simp only [List.mem_cons, List.not_mem_nil, or_false] at hw
    subst hw
    rw [num1, signW_dec h]
  | a :: b :: r, _ => rfl
theorem setting_sign {rest : List (List UInt8)} {w : List UInt8} (hw : w ∈ rest) (h : signW w = true) : settingD rest = none := by
  unfold settingD
  have hne : rest ≠ [] := by rintro rfl; cases hw
  have e : rest = rest.dropLast ++ [rest.getLastD []] := by
    rw [List.getLastD_eq_getLast?, List.getLast?_eq_some_getLast hne]
    exact (List.dropLast_concat_getLast hne).symm
  rw [e] at hw
  rcases List.mem_append.1 hw with h1 | h1
  · rw [path_sign h1 h]
  · simp only [List.mem_cons, List.not_mem_nil, or_false] at h1
    cases hp : pathD rest.dropLast with
    | none => rfl
    | some p =>
      obtain ⟨hd, n, l⟩ := p
      have : rightV hd l (rest.getLastD []) = false := by
        unfold rightV
        cases hf : findD hd l with
        | none => rfl
        | some r => rw [← h1]; exact sign_right h hf
      simp only [this]
      rfl
/-- the document's way, whole -/
def docD (ws : List (List UInt8)) : Option CmdD :=
  match ws with
  | [] => none
  | v :: rest =>
    if ws.any signW = true then none
    else if verbD v = 3 ∨ verbD v = 4 ∨ verbD v = 5 ∨ verbD v = 6 ∨ verbD v = 8 then (if rest = [] then some ⟨verbD v, 0, [], [], [], 0⟩ else none)
    else if verbD v = 7 ∧ rest.length = 1 then (numD rest 1 65535).map fun n => ⟨7, 0, [], [], [], n⟩
    else if verbD v = 9 ∧ rest.length = 1 then (numD rest 0 5).map fun n => ⟨9, 0, [], [], [], n⟩
    else if (verbD v ≠ 1 ∧ verbD v ≠ 2) ∨ rest = [] then none
    else docSD (verbD v) rest
theorem verb_lt (w : List UInt8) : verbD w < 10 := by
  unfold verbD
  cases h : verbsL.findIdx? (· == w) with
  | none => simp
  | some i =>
    have := (List.findIdx?_eq_some_iff_getElem.1 h).1
    simpa [verbsL] using this
theorem num_len {rest : List (List UInt8)} {lo hi : Int} (h : rest.length ≠ 1) : numD rest lo hi = none := by
  match rest, h with
  | [], _ => rfl
  | [_], h => exact absurd rfl h
  | _ :: _ :: _, _ => rfl
theorem find_headD (w : List UInt8) (h : headD w ≠ 0) : findD 0 w = none := by
  have hr : findD 0 areaW = none ∧ findD 0 faceW = none := ⟨rfl, rfl⟩
  unfold headD at h
  split at h
  · rename_i e; rw [e]; exact hr.1
  · split at h
    · rename_i e; rw [e]; exact hr.2
    · exact absurd rfl h
theorem find_nil (w : List UInt8) : findD (headD w) [] = none := by
  unfold headD; split
  · rfl
  · split <;> rfl
theorem doc_delete (rest : List (List UInt8)) (hne : rest ≠ []) : docSD 2 rest = (pathD rest).map fun p => ⟨2, p.1, p.2.1, p.2.2, [], 0⟩ := by
  match rest, hne with
  | [a], _ =>
    rw [doc1, path1]
    by_cases h : headD a = 0
    · rw [if_pos h, docin1, if_pos rfl]
      split <;> rfl
    · rw [if_neg h, find_headD a h]; rfl
  | [a, b], _ =>
    rw [doc1, path2]
    by_cases h : headD a = 0
    · rw [if_pos h, if_neg (by simp [h]), docin2, if_neg (by decide)]; rfl
    · rw [if_neg h]
      by_cases hn : namedB (headD a) b = true
      · simp [hn, h]
      · simp [hn]
  | [a, b, c], _ =>
    rw [doc1, path3]
    by_cases h : headD a = 0
    · rw [if_pos h, if_neg (by simp [h]), docin3]; rfl
    · rw [if_neg h]
      by_cases hn : namedB (headD a) b = true
      · simp only [hn, if_true]
        rw [if_neg (by simp), if_pos ⟨h, trivial⟩, docin1, if_pos rfl]
        split <;> rfl
      · simp [hn]
  | a :: b :: c :: d :: r, _ =>
    rw [doc1, path4]
    by_cases h : headD a = 0
    · rw [if_pos h, docin3]; rfl
    · rw [if_neg h]
      by_cases hn : namedB (headD a) b = true
      · simp only [hn, if_true]
        rw [if_neg (by simp)]
        cases r with
        | nil => rw [docin2, if_neg (by decide)]; rfl
        | cons e r => rw [docin3]; rfl
      · simp [hn]
theorem doc_set (rest : List (List UInt8)) (hne : rest ≠ []) : docSD 1 rest = settingD rest := by
  match rest, hne with
  | [a], _ =>
    rw [doc1]
    unfold settingD
    rw [show ([a] : List (List UInt8)).dropLast = [] from rfl, path0]
    by_cases h : headD a = 0
    · rw [if_pos h, docin1, if_neg (by decide)]
    · rw [if_neg h]
  | [a, b], _ =>
    rw [doc1]
    unfold settingD
    rw [show ([a, b] : List (List UInt8)).dropLast = [a] from rfl, show ([a, b] : List (List UInt8)).getLastD [] = b from rfl, path1]
    by_cases h : headD a = 0
    · rw [if_pos h, docin2, if_pos rfl]
      cases hf : findD 0 a with
      | none => simp
      | some r =>
        have e : rightV 0 a b = rightB r.kind r.lo r.hi r.cs b := by unfold rightV; rw [hf]
        simp [e]
    · rw [if_neg h, find_headD a h]
      by_cases hn : namedB (headD a) b = true
      · simp only [hn, if_true]
        rw [if_neg (by simp), docin0]; rfl
      · simp [hn]
  | [a, b, c], _ =>
    rw [doc1]
    unfold settingD
    rw [show ([a, b, c] : List (List UInt8)).dropLast = [a, b] from rfl, show ([a, b, c] : List (List UInt8)).getLastD [] = c from rfl, path2]
    by_cases h : headD a = 0
    · rw [if_pos h, docin3, if_neg (by simp [h])]
    · rw [if_neg h]
      by_cases hn : namedB (headD a) b = true
      · simp only [hn, if_true]
        rw [if_neg (by simp), if_pos ⟨h, trivial⟩, docin1, if_neg (by decide)]
        have e : rightV (headD a) [] c = false := by unfold rightV; rw [find_nil]
        simp [e]
      · simp [hn]
  | [a, b, c, d], _ =>
    rw [doc1]
    unfold settingD
    rw [show ([a, b, c, d] : List (List UInt8)).dropLast = [a, b, c] from rfl, show ([a, b, c, d] : List (List UInt8)).getLastD [] = d from rfl, path3]
    by_cases h : headD a = 0
    · rw [if_pos h, docin3, if_neg (by simp [h])]
    · rw [if_neg h]
      by_cases hn : namedB (headD a) b = true
      · simp only [hn, if_true]
        rw [if_neg (by simp), if_pos ⟨h, trivial⟩, docin2, if_pos rfl]
        cases hf : findD (headD a) c with
        | none => simp
        | some r =>
          have e : rightV (headD a) c d = rightB r.kind r.lo r.hi r.cs d := by unfold rightV; rw [hf]
          simp [e]
      · simp [hn]
  | a :: b :: c :: d :: e :: r, _ =>
    rw [doc1]
    unfold settingD
    rw [show (a :: b :: c :: d :: e :: r : List (List UInt8)).dropLast = a :: b :: c :: d :: (e :: r).dropLast from rfl, path4]
    by_cases h : headD a = 0
    · rw [if_pos h, docin3]
    · rw [if_neg h]
      by_cases hn : namedB (headD a) b = true
      · simp only [hn, if_true]
        rw [if_neg (by simp), docin3]
      · simp [hn]
theorem doc_words (ws : List (List UInt8)) : docD ws = wordsD ws := by
  cases ws with
  | nil => rfl
  | cons v rest =>
    unfold docD wordsD
    simp only
    by_cases hs : (v :: rest).any signW = true
    · rw [if_pos hs]
      obtain ⟨w, hw, h⟩ := List.any_eq_true.1 hs
      unfold cmdD
      rcases List.mem_cons.1 hw with rfl | hw
      · rw [if_pos (sign_verb h)]
      · have hne : rest ≠ [] := by rintro rfl; cases hw
        rw [setting_sign hw h, path_sign hw h, num_sign hw h, num_sign hw h, if_neg hne]
        simp
    · rw [if_neg hs]
      unfold cmdD
      have hv := verb_lt v
      generalize verbD v = k at hv ⊢
      have hk : k = 0 ∨ k = 1 ∨ k = 2 ∨ k = 3 ∨ k = 4 ∨ k = 5 ∨ k = 6 ∨ k = 7 ∨ k = 8 ∨ k = 9 := by omega
      by_cases hne : rest = []
      · subst hne
        rcases hk with rfl | rfl | rfl | rfl | rfl | rfl | rfl | rfl | rfl | rfl <;> simp [settingD, pathD, numD]
      · rcases hk with rfl | rfl | rfl | rfl | rfl | rfl | rfl | rfl | rfl | rfl
        · simp
        · simp [hne]; exact doc_set rest hne
        · simp [hne]; exact doc_delete rest hne
        · simp
        · simp
        · simp
        · simp
        · by_cases hl : rest.length = 1
          · simp [hl]
          · simp [hl, num_len hl]
        · simp
        · by_cases hl : rest.length = 1
          · simp [hl]
          · simp [hl, num_len hl]
end Go.Proofs.YtdannodhlaaoiaaGreatDoor
/- The document's table and its Find, walked. -/
namespace Go.Proofs.YtdannodhlaaoiaaGreatDoor
open Go.RowKit

theorem rowInfo4 : (Tryz.prog.info? 157).map (·.size) = some 8 := by kernel_rfl
set_option maxRecDepth 100000 in
set_option maxHeartbeats 4000000 in
theorem rTable_any (w : World) : Calls Tryz.prog 120 #[] w (TablePost w) := by
  go_enter Tryz.func120, Tryz.ntmps120
  go_wp2
  go_ret
  exact tablePost_of _ _ _ rfl rfl rfl

/-- what the document's Find answers; its row's choices lie in a new block -/
def FindPostF (f : Option RowD) (w : World) (e : Ending) (w' : World) : Prop :=
  match f with
  | some r => ∃ p cc, e = .returned (.tuple #[.agg #[.int .i64 r.head, strv r.name, .int .i64 r.kind, .int .i64 r.lo, .int .i64 r.hi, .slice p r.cs.length cc, strv r.df, .int .i64 r.cl], .bool true]) ∧ StrsAt w' (.slice p r.cs.length cc) r.cs ∧ (∀ i, (Value.slice p r.cs.length cc).ownBlock = some i → w.heap.size ≤ i) ∧ Keeps (fun _ => False) w w'
  | none => e = .returned (.tuple #[.agg zeroRow, .bool false]) ∧ Keeps (fun _ => False) w w'
set_option maxRecDepth 100000 in
set_option maxHeartbeats 2000000 in
theorem rFind_new (head : Int) (nm : ByteArray) (f : Option RowD) (w : World) (hf : Hid (findD head nm.data.toList = f)) :
    Calls Tryz.prog 97 #[.int .i64 head, .string nm] w (FindPostF f w) := by
  go_enter Tryz.func97, Tryz.ntmps97
  go_wp2_with fail
  refine (rTable_any _).mono ?_
  rintro e w1 ⟨g, rfl, hg, ht, hk⟩
  have hb : w1.heap[w.heap.size]? = some (.cells zeroRow 157 (0, 0)) := by
    rw [hk.block _ (by simp) id]
    exact heap_alloc_last w _
  have hb' := Lib.hid hb; have ht' := Lib.hid (show TableAt (w.heap.size + 1) w1 g by simpa using ht); have hk' := Lib.hid (((Keeps.refl (fun _ => False) w).alloc _).trans hk)
  have hgs : w.heap.size + 1 ≤ g := by simpa using hg
  clear hb ht hk hg
  go_wp2_with fail
  go_loopw [7] (fun i wr => ∃ k : Nat, k ≤ 12 ∧ i = .int .i64 k ∧ Hid (∀ (i : Nat) (q : RowD), i < k → tableD[i]? = some q → ¬ (q.head = head ∧ q.name = nm.data.toList)) ∧ Hid (TableAt (w.heap.size + 1) wr g) ∧ Hid (wr.heap[w.heap.size]? = some (.cells zeroRow 157 (0, 0))) ∧ Hid (Keeps (fun _ => False) w wr)) (fun i _ => 12 - (intOf i).toNat)
  case atStart => exact ⟨0, by omega, rfl, Lib.hid (fun _ _ h => by omega), ht', hb', hk'⟩
  case round =>
    obtain ⟨k, hk12, rfl, hno, htr, hbr, hkr⟩ := hrel
    by_cases hlt : k < 12
    · obtain ⟨r, hr⟩ : ∃ r, tableD[k]? = some r := ⟨_, List.getElem?_eq_getElem (show k < tableD.length from hlt)⟩
      obtain ⟨cv, hrange, hcs, hbk⟩ := htr.out k r hr
      obtain ⟨p, cc, rfl, hcs0⟩ := hcs
      have hbkeep := Lib.hid hbk; clear hbk
      have hcs' : Hid (StrsAt wr (.slice p r.cs.length cc) r.cs) := Lib.hid ⟨p, cc, rfl, hcs0⟩
      obtain ⟨N, hN⟩ : ∃ N : ByteArray, N = ⟨r.name.toArray⟩ := ⟨_, rfl⟩
      obtain ⟨F, hF⟩ : ∃ F : ByteArray, F = ⟨r.df.toArray⟩ := ⟨_, rfl⟩
      have hra : Hid (wr.rangeAt g (k * 8) [.int .i64 r.head, .string N, .int .i64 r.kind, .int .i64 r.lo, .int .i64 r.hi, .slice p r.cs.length cc, .string F, .int .i64 r.cl]) := Lib.hid (by rw [hN, hF]; exact hrange)
      have a0 : wr.cell? ⟨g, k * 8, none⟩ = some (.int .i64 r.head) := hra.out 0 _ rfl
      have a1 : wr.cell? ⟨g, k * 8 + 1, none⟩ = some (.string N) := hra.out 1 _ rfl
      have hNl : N.toList = r.name := by rw [hN, Lib.toList_data]
      have hN' := Lib.hid hN; have hF' := Lib.hid hF; have hr' := Lib.hid hr
      clear hcs0 hrange hN hF hr
      by_cases hh : r.head = head
      · have e1 : (r.head == head) = true := by simpa using hh
        by_cases hn : r.name = nm.data.toList
        · have e2 : (N.toList == nm.toList) = true := by rw [hNl, Lib.toList_data, hn]; simp
          have hfr : Hid (f = some r) := Lib.hid (by rw [← hf.out]; exact find_step hr'.out hno.out ⟨hh, hn⟩)
          have hNl' := Lib.hid hNl; clear hh hn hNl
          go_wp2_with (first | ((with_reducible refine at_slot 34 ?_); refine wpList_load_mid rfl 157 (.tmp 33) rfl g (k * 8) rfl _ _ hra.out Tryz.underlying157 rfl rowInfo4 ?_) | ((with_reducible refine at_store 4 ?_); refine wpList_store_row_named rfl 157 (.tmp 4) (.tmp 34) rfl w.heap.size #[.int .i64 r.head, .string N, .int .i64 r.kind, .int .i64 r.lo, .int .i64 r.hi, .slice p r.cs.length cc, .string F, .int .i64 r.cl] rfl rfl 157 zeroRow hbr.out rowInfo4 rfl (row_one _ _ _ _ _ _ _ _ _ _) ?_; intro W2 hW2; have hW2' := Lib.hid hW2; clear hW2))
          have hcell : ∀ j, W2.cell? ⟨w.heap.size, j, none⟩ = (#[.int .i64 r.head, .string N, .int .i64 r.kind, .int .i64 r.lo, .int .i64 r.hi, .slice p r.cs.length cc, .string F, .int .i64 r.cl] : Array Value)[j]? := fun j => by rw [hW2'.out]; exact cell_setRow_same _ _ _ _ _ _ _ hbr.out
          have c0 := hcell 0; have c1 := hcell 1; have c2 := hcell 2; have c3 := hcell 3; have c4 := hcell 4; have c5 := hcell 5; have c6 := hcell 6; have c7 := hcell 7
          have kall : Keeps (fun _ => False) w W2 := by rw [hW2'.out]; exact hkr.out.setRow (.inr (Nat.le_refl _)) _
          have hcsW : StrsAt W2 (.slice p r.cs.length cc) r.cs := by
            have h1 := hcs'.out
            rw [hW2'.out]
            refine h1.keep ((Keeps.refl (fun k => k = w.heap.size) _).setRow (.inl rfl) _) (fun h0 i e f => ?_)
            have := hbkeep.out i e
            omega
          have hcell' := Lib.hid hcell; clear hcell
          rw [hfr.out]
          refine bodyPost_ret (v := .tuple #[.agg #[.int .i64 r.head, .string N, .int .i64 r.kind, .int .i64 r.lo, .int .i64 r.hi, .slice p r.cs.length cc, .string F, .int .i64 r.cl], .bool true]) (by simp [results, Tryz.results97, go_sem, c0, c1, c2, c3, c4, c5, c6, c7]) rfl ⟨p, cc, ?_, hcsW, fun i e => by have := hbkeep.out i e; omega, kall⟩
          rw [hN'.out, hF'.out]; rfl
        · have e2 : (N.toList == nm.toList) = false := by rw [hNl, Lib.toList_data]; simpa using hn
          have hno' : Hid (∀ (i : Nat) (q : RowD), i < k + 1 → tableD[i]? = some q → ¬ (q.head = head ∧ q.name = nm.data.toList)) := Lib.hid (fun i q hi hq => by
            by_cases e : i = k
            · subst e
              have : q = r := by rw [hr'.out] at hq; injection hq with hq; exact hq.symm
              subst this
              exact fun ⟨_, b⟩ => hn b
            · exact hno.out i q (by omega) hq)
          have hNl' := Lib.hid hNl; clear hh hn hNl
          go_wp2
          exact ⟨⟨k + 1, by omega, by go_num, hno', htr, hbr, hkr⟩, by simp [intOf]; omega⟩
      · have e1 : (r.head == head) = false := by simpa using hh
        have hno' : Hid (∀ (i : Nat) (q : RowD), i < k + 1 → tableD[i]? = some q → ¬ (q.head = head ∧ q.name = nm.data.toList)) := Lib.hid (fun i q hi hq => by
          by_cases e : i = k
          · subst e
            have : q = r := by rw [hr'.out] at hq; injection hq with hq; exact hq.symm
            subst this
            exact fun ⟨a, _⟩ => hh a
          · exact hno.out i q (by omega) hq)
        have hNl' := Lib.hid hNl; clear hh hNl
        go_wp2
        exact ⟨⟨k + 1, by omega, by go_num, hno', htr, hbr, hkr⟩, by simp [intOf]; omega⟩
    · obtain rfl : k = 12 := by omega
      have hfn : Hid (f = none) := Lib.hid (by rw [← hf.out]; exact find_none hno.out)
      go_wp2_with ((with_reducible refine at_store 4 ?_); refine wpList_store_row_named rfl 157 (.tmp 4) (.tmp 35) rfl w.heap.size zeroRow rfl rfl 157 zeroRow hbr.out rowInfo4 rfl (row_one _ _ _ _ _ _ _ _ _ _) ?_; intro W2 hW2; have hW2' := Lib.hid hW2; clear hW2)
      have hcell : ∀ j, W2.cell? ⟨w.heap.size, j, none⟩ = zeroRow[j]? := fun j => by rw [hW2'.out]; exact cell_setRow_same _ _ _ _ _ _ _ hbr.out
      have c0 := hcell 0; have c1 := hcell 1; have c2 := hcell 2; have c3 := hcell 3; have c4 := hcell 4; have c5 := hcell 5; have c6 := hcell 6; have c7 := hcell 7
      have kall : Keeps (fun _ => False) w W2 := by rw [hW2'.out]; exact hkr.out.setRow (.inr (Nat.le_refl _)) _
      rw [hfn.out]
      refine bodyPost_ret (v := .tuple #[.agg zeroRow, .bool false]) (by simp [results, Tryz.results97, go_sem, c0, c1, c2, c3, c4, c5, c6, c7, zeroRow]) rfl ⟨rfl, kall⟩
theorem rFind_any (head : Int) (nm : ByteArray) (f : Option RowD) (w : World) (hf : Hid (findD head nm.data.toList = f)) :
    Calls Tryz.prog 97 #[.int .i64 head, .string nm] w (FindPost f w) :=
  (rFind_new head nm f w hf).mono fun e w' h => by
    cases f with
    | none => exact h
    | some r => obtain ⟨p, cc, he, hs, _, hk⟩ := h; exact ⟨p, cc, he, hs, hk⟩
end Go.Proofs.YtdannodhlaaoiaaGreatDoor
/- Less, the code's and the document's, walked. -/
namespace Go.Proofs.YtdannodhlaaoiaaGreatDoor
open Go.RowKit

/-- a line, plain -/
structure LineD where
  head : Int
  name : List UInt8
  leaf : List UInt8
  value : List UInt8
def lessB (a b : LineD) : Bool :=
  if a.head = b.head then (if a.name = b.name then Op.bytesLess a.leaf b.leaf else Op.bytesLess a.name b.name) else decide (a.head < b.head)

set_option maxRecDepth 100000 in
theorem less_any (h1 h2 : Int) (n1 l1 v1 n2 l2 v2 : ByteArray) (r : Bool) (w : World) (hr : Hid (lessB ⟨h1, n1.data.toList, l1.data.toList, v1.data.toList⟩ ⟨h2, n2.data.toList, l2.data.toList, v2.data.toList⟩ = r)) :
    Calls Tryz.prog 72 #[.agg #[.int .i64 h1, .string n1, .string l1, .string v1], .agg #[.int .i64 h2, .string n2, .string l2, .string v2]] w (NewRes (.bool r) w) := by
  have hq := hr.out
  unfold lessB at hq
  simp only at hq
  by_cases hh : h1 = h2
  · have e1 : (h1 != h2) = false := by simpa using hh
    rw [if_pos hh] at hq
    by_cases hn : n1.data.toList = n2.data.toList
    · have e2 : (n1.toList == n2.toList) = true := by rw [Lib.toList_data, Lib.toList_data, hn]; simp
      rw [if_pos hn, ← Lib.toList_data l1, ← Lib.toList_data l2] at hq
      have hq' := Lib.hid hq; clear hq hr hh hn
      go_enter Tryz.func72, Tryz.ntmps72
      go_wp2
      go_ret
      exact ⟨by rw [← hq'.out]; rfl, ((Keeps.refl _ _).alloc _).alloc _⟩
    · have e2 : (n1.toList == n2.toList) = false := by rw [Lib.toList_data, Lib.toList_data]; simpa using hn
      rw [if_neg hn, ← Lib.toList_data n1, ← Lib.toList_data n2] at hq
      have hq' := Lib.hid hq; clear hq hr hh hn
      go_enter Tryz.func72, Tryz.ntmps72
      go_wp2
      go_ret
      exact ⟨by rw [← hq'.out]; rfl, ((Keeps.refl _ _).alloc _).alloc _⟩
  · have e1 : (h1 != h2) = true := by simpa using hh
    rw [if_neg hh] at hq
    have hq' := Lib.hid hq; clear hq hr hh
    go_enter Tryz.func72, Tryz.ntmps72
    go_wp2
    go_ret
    exact ⟨by rw [← hq'.out]; rfl, ((Keeps.refl _ _).alloc _).alloc _⟩

set_option maxRecDepth 100000 in
theorem rLess_any (h1 h2 : Int) (n1 l1 v1 n2 l2 v2 : ByteArray) (r : Bool) (w : World) (hr : Hid (lessB ⟨h1, n1.data.toList, l1.data.toList, v1.data.toList⟩ ⟨h2, n2.data.toList, l2.data.toList, v2.data.toList⟩ = r)) :
    Calls Tryz.prog 63 #[.agg #[.int .i64 h1, .string n1, .string l1, .string v1], .agg #[.int .i64 h2, .string n2, .string l2, .string v2]] w (NewRes (.bool r) w) := by
  have hq := hr.out
  unfold lessB at hq
  simp only at hq
  by_cases hh : h1 = h2
  · have e1 : (h1 != h2) = false := by simpa using hh
    rw [if_pos hh] at hq
    by_cases hn : n1.data.toList = n2.data.toList
    · have e2 : (n1.toList == n2.toList) = true := by rw [Lib.toList_data, Lib.toList_data, hn]; simp
      rw [if_pos hn, ← Lib.toList_data l1, ← Lib.toList_data l2] at hq
      have hq' := Lib.hid hq; clear hq hr hh hn
      go_enter Tryz.func63, Tryz.ntmps63
      go_wp2
      go_ret
      exact ⟨by rw [← hq'.out]; rfl, ((Keeps.refl _ _).alloc _).alloc _⟩
    · have e2 : (n1.toList == n2.toList) = false := by rw [Lib.toList_data, Lib.toList_data]; simpa using hn
      rw [if_neg hn, ← Lib.toList_data n1, ← Lib.toList_data n2] at hq
      have hq' := Lib.hid hq; clear hq hr hh hn
      go_enter Tryz.func63, Tryz.ntmps63
      go_wp2
      go_ret
      exact ⟨by rw [← hq'.out]; rfl, ((Keeps.refl _ _).alloc _).alloc _⟩
  · have e1 : (h1 != h2) = true := by simpa using hh
    rw [if_neg hh] at hq
    have hq' := Lib.hid hq; clear hq hr hh
    go_enter Tryz.func63, Tryz.ntmps63
    go_wp2
    go_ret
    exact ⟨by rw [← hq'.out]; rfl, ((Keeps.refl _ _).alloc _).alloc _⟩
end Go.Proofs.YtdannodhlaaoiaaGreatDoor
