/- Commands, plain: what parse.Read answers, and that the document's way to it is the same. -/
import Derived.Test.YtljfeefhlbgopaaDoorU04
import Derived.Test.YtljfeefhlbgopaaDoorU01
import Derived.Deep.RegionHeld3
set_option linter.unusedVariables false
set_option linter.unusedSimpArgs false
namespace Go.Proofs.YtljfeefhlbgopaaDoor
open Go.RowKit

/-- a command -/
structure CmdD where
  what : Int
  head : Int
  name : List UInt8
  leaf : List UInt8
  value : List UInt8
  n : Int
def cmdVals (c : CmdD) : List Value := [.int .i64 c.what, .int .i64 c.head, strv c.name, strv c.leaf, strv c.value, .int .i64 c.n]
def noCmd : CmdD := ⟨0, 0, [], [], [], 0⟩
def verbsL : List (List UInt8) := [[], [115, 101, 116], [100, 101, 108, 101, 116, 101], [115, 104, 111, 119], [99, 111, 109, 112, 97, 114, 101], [99, 104, 101, 99, 107], [99, 111, 109, 109, 105, 116], [99, 111, 109, 109, 105, 116, 45, 99, 111, 110, 102, 105, 114, 109, 101, 100], [99, 111, 110, 102, 105, 114, 109], [114, 111, 108, 108, 98, 97, 99, 107]]
def verbD (w : List UInt8) : Nat := (verbsL.findIdx? (· == w)).getD 0
def areaW : List UInt8 := [97, 114, 101, 97]
def faceW : List UInt8 := [105, 110, 116, 101, 114, 102, 97, 99, 101]
def headD (w : List UInt8) : Int := if w = areaW then 1 else if w = faceW then 2 else 0
def pathD : List (List UInt8) → Option (Int × List UInt8 × List UInt8)
  | [l] => if (findD 0 l).isSome then some (0, [], l) else none
  | [h, n] => if headD h ≠ 0 ∧ namedB (headD h) n = true then some (headD h, n, []) else none
  | [h, n, l] => if headD h ≠ 0 ∧ namedB (headD h) n = true then (if (findD (headD h) l).isSome then some (headD h, n, l) else none) else none
  | _ => none
def numD (rest : List (List UInt8)) (lo hi : Int) : Option Int :=
  match rest with
  | [w] => match decL w with | some n => if lo ≤ (n : Int) ∧ (n : Int) ≤ hi then some (n : Int) else none | none => none
  | _ => none
def rightV (head : Int) (leaf value : List UInt8) : Bool := match findD head leaf with | some r => rightB r.kind r.lo r.hi r.cs value | none => false
def settingD (rest : List (List UInt8)) : Option CmdD :=
  match pathD rest.dropLast with
  | some (h, n, l) => if rightV h l (rest.getLastD []) then some ⟨1, h, n, l, rest.getLastD [], 0⟩ else none
  | none => none
def cmdD (v : List UInt8) (rest : List (List UInt8)) : Option CmdD :=
  if verbD v = 0 then none
  else if verbD v = 1 then settingD rest
  else if verbD v = 2 then (pathD rest).map fun p => ⟨2, p.1, p.2.1, p.2.2, [], 0⟩
  else if verbD v = 7 then (numD rest 1 65535).map fun n => ⟨7, 0, [], [], [], n⟩
  else if verbD v = 9 then (numD rest 0 5).map fun n => ⟨9, 0, [], [], [], n⟩
  else if rest = [] then some ⟨verbD v, 0, [], [], [], 0⟩ else none
def wordsD : List (List UInt8) → Option CmdD
  | [] => none
  | v :: rest => cmdD v rest
/-- what Read answers -/
def readD (t : List UInt8) : Option CmdD := match lexL t with | .ok l => wordsD l | .bad _ => none

/-! the document's way -/
def signW (w : List UInt8) : Bool := w == [123] || (w == [125] || w == [59])
def docSD (what : Int) (rest : List (List UInt8)) : Option CmdD :=
  match rest with
  | [] => none
  | h :: r =>
    if headD h = 0 then docIn what 0 [] rest
    else match r with
      | [] => none
      | n :: r2 => if namedB (headD h) n = true then (if what = 2 ∧ r2 = [] then some ⟨2, headD h, n, [], [], 0⟩ else docIn what (headD h) n r2) else none
where
  docIn (what head : Int) (name : List UInt8) (rest : List (List UInt8)) : Option CmdD :=
    match rest with
    | [l] => if what = 2 then (if (findD head l).isSome then some ⟨2, head, name, l, [], 0⟩ else none) else none
    | [l, v] => if what = 1 then (match findD head l with | some r => if rightB r.kind r.lo r.hi r.cs v = true then some ⟨1, head, name, l, v, 0⟩ else none | none => none) else none
    | _ => none
theorem path0 : pathD [] = none := rfl
theorem path1 (l : List UInt8) : pathD [l] = if (findD 0 l).isSome then some (0, [], l) else none := rfl
theorem path2 (h n : List UInt8) : pathD [h, n] = if headD h ≠ 0 ∧ namedB (headD h) n = true then some (headD h, n, []) else none := rfl
theorem path3 (h n l : List UInt8) : pathD [h, n, l] = if headD h ≠ 0 ∧ namedB (headD h) n = true then (if (findD (headD h) l).isSome then some (headD h, n, l) else none) else none := rfl
theorem path4 (a b c d : List UInt8) (r : List (List UInt8)) : pathD (a :: b :: c :: d :: r) = none := rfl
theorem num1 (w : List UInt8) (lo hi : Int) : numD [w] lo hi = match decL w with | some n => if lo ≤ (n : Int) ∧ (n : Int) ≤ hi then some (n : Int) else none | none => none := rfl
theorem doc1 (what : Int) (h : List UInt8) (r : List (List UInt8)) : docSD what (h :: r) = if headD h = 0 then docSD.docIn what 0 [] (h :: r)
    else match r with
      | [] => none
      | n :: r2 => if namedB (headD h) n = true then (if what = 2 ∧ r2 = [] then some ⟨2, headD h, n, [], [], 0⟩ else docSD.docIn what (headD h) n r2) else none := rfl
theorem docin0 (what head : Int) (name : List UInt8) : docSD.docIn what head name [] = none := rfl
theorem docin1 (what head : Int) (name l : List UInt8) : docSD.docIn what head name [l] = if what = 2 then (if (findD head l).isSome then some ⟨2, head, name, l, [], 0⟩ else none) else none := rfl
theorem docin2 (what head : Int) (name l v : List UInt8) : docSD.docIn what head name [l, v] = if what = 1 then (match findD head l with | some r => if rightB r.kind r.lo r.hi r.cs v = true then some ⟨1, head, name, l, v, 0⟩ else none | none => none) else none := rfl
theorem docin3 (what head : Int) (name a b c : List UInt8) (r : List (List UInt8)) : docSD.docIn what head name (a :: b :: c :: r) = none := rfl
theorem sign_head {w : List UInt8} (h : signW w = true) : headD w = 0 := by
  unfold signW at h
  simp only [Bool.or_eq_true, beq_iff_eq] at h
  rcases h with rfl | rfl | rfl <;> decide
theorem sign_verb {w : List UInt8} (h : signW w = true) : verbD w = 0 := by
  unfold signW at h
  simp only [Bool.or_eq_true, beq_iff_eq] at h
  rcases h with rfl | rfl | rfl <;> decide
theorem sign_find {w : List UInt8} (h : signW w = true) (head : Int) : findD head w = none := by
  unfold signW at h
  simp only [Bool.or_eq_true, beq_iff_eq] at h
  unfold findD
  rw [List.find?_eq_none]
  intro q hq
  simp only [decide_eq_true_eq, not_and]
  intro _ e
  unfold tableD at hq
  simp only [List.mem_cons, List.not_mem_nil, or_false] at hq
  rcases h with rfl | rfl | rfl <;> rcases hq with rfl | rfl | rfl | rfl | rfl | rfl | rfl | rfl | rfl | rfl | rfl | rfl <;> simp at e
theorem sign_word {w : List UInt8} (h : signW w = true) : isWordB w = false := by
  unfold signW at h
  simp only [Bool.or_eq_true, beq_iff_eq] at h
  rcases h with rfl | rfl | rfl <;> decide
theorem sign_addr {w : List UInt8} (h : signW w = true) : addrL w = none := by
  unfold signW at h
  simp only [Bool.or_eq_true, beq_iff_eq] at h
  rcases h with rfl | rfl | rfl <;> decide +kernel
theorem sign_net {w : List UInt8} (h : signW w = true) : netL w = none := by
  unfold signW at h
  simp only [Bool.or_eq_true, beq_iff_eq] at h
  rcases h with rfl | rfl | rfl <;> decide +kernel
theorem signW_dec {w : List UInt8} (h : signW w = true) : decL w = none := by
  unfold signW at h
  simp only [Bool.or_eq_true, beq_iff_eq] at h
  rcases h with rfl | rfl | rfl <;> decide +kernel
theorem sign_named {w : List UInt8} (h : signW w = true) (head : Int) (h0 : head ≠ 0) : namedB head w = false := by
  unfold namedB
  rw [if_neg h0, sign_addr h, sign_word h]
  split
  · rfl
  · split <;> rfl
theorem sign_right {w : List UInt8} (h : signW w = true) {head : Int} {leaf : List UInt8} {r : RowD} (hf : findD head leaf = some r) : rightB r.kind r.lo r.hi r.cs w = false := by
  have hm := List.mem_of_find?_eq_some hf
  have hc : r.cs.contains w = false := by
    unfold signW at h
    simp only [Bool.or_eq_true, beq_iff_eq] at h
    unfold tableD at hm
    simp only [List.mem_cons, List.not_mem_nil, or_false] at hm
    rcases h with rfl | rfl | rfl <;> rcases hm with rfl | rfl | rfl | rfl | rfl | rfl | rfl | rfl | rfl | rfl | rfl | rfl <;> decide
  unfold rightB
  rw [sign_addr h, sign_net h, signW_dec h, sign_word h, hc]
  split
  · rfl
  · split
    · rfl
    · split
      · rfl
      · split
        · rfl
        · split
          · simp
          · rfl
theorem path_sign {rest : List (List UInt8)} {w : List UInt8} (hw : w ∈ rest) (h : signW w = true) : pathD rest = none := by
  match rest, hw with
  | [l], hw =>
    simp only [List.mem_cons, List.not_mem_nil, or_false] at hw
    subst hw
    rw [path1, sign_find h]; rfl
  | [a, b], hw =>
    simp only [List.mem_cons, List.not_mem_nil, or_false] at hw
    rw [path2]
    rcases hw with rfl | rfl
    · rw [sign_head h, if_neg (by simp)]
    · by_cases h0 : headD a = 0
      · rw [if_neg (by simp [h0])]
      · rw [sign_named h _ h0, if_neg (by simp)]
  | [a, b, c], hw =>
    simp only [List.mem_cons, List.not_mem_nil, or_false] at hw
    rw [path3]
    rcases hw with rfl | rfl | rfl
    · rw [sign_head h, if_neg (by simp)]
    · by_cases h0 : headD a = 0
      · rw [if_neg (by simp [h0])]
      · rw [sign_named h _ h0, if_neg (by simp)]
    · rw [sign_find h]
      split <;> rfl
  | a :: b :: c :: d :: r, _ => rfl
theorem num_sign {rest : List (List UInt8)} {w : List UInt8} (hw : w ∈ rest) (h : signW w = true) (lo hi : Int) : numD rest lo hi = none := by
  match rest, hw with
  | [l], hw =>
    simp only [List.mem_cons, List.not_mem_nil, or_false] at hw
    subst hw
    rw [num1, signW_dec h]
  | a :: b :: r, _ => rfl
theorem setting_sign {rest : List (List UInt8)} {w : List UInt8} (hw : w ∈ rest) (h : signW w = true) : settingD rest = none := by
  unfold settingD
  have hne : rest ≠ [] := by rintro rfl; cases hw
  have e : rest = rest.dropLast ++ [rest.getLastD []] := by
    rw [List.getLastD_eq_getLast?, List.getLast?_eq_some_getLast hne]
    exact (List.dropLast_concat_getLast hne).symm
  rw [e] at hw
  rcases List.mem_append.1 hw with h1 | h1
  · rw [path_sign h1 h]
  · simp only [List.mem_cons, List.not_mem_nil, or_false] at h1
    cases hp : pathD rest.dropLast with
    | none => rfl
    | some p =>
      obtain ⟨hd, n, l⟩ := p
      have : rightV hd l (rest.getLastD []) = false := by
        unfold rightV
        cases hf : findD hd l with
        | none => rfl
        | some r => rw [← h1]; exact sign_right h hf
      simp only [this]
      rfl
/-- the document's way, whole -/
def docD (ws : List (List UInt8)) : Option CmdD :=
  match ws with
  | [] => none
  | v :: rest =>
    if ws.any signW = true then none
    else if verbD v = 3 ∨ verbD v = 4 ∨ verbD v = 5 ∨ verbD v = 6 ∨ verbD v = 8 then (if rest = [] then some ⟨verbD v, 0, [], [], [], 0⟩ else none)
    else if verbD v = 7 ∧ rest.length = 1 then (numD rest 1 65535).map fun n => ⟨7, 0, [], [], [], n⟩
    else if verbD v = 9 ∧ rest.length = 1 then (numD rest 0 5).map fun n => ⟨9, 0, [], [], [], n⟩
    else if (verbD v ≠ 1 ∧ verbD v ≠ 2) ∨ rest = [] then none
    else docSD (verbD v) rest
theorem verb_lt (w : List UInt8) : verbD w < 10 := by
  unfold verbD
  cases h : verbsL.findIdx? (· == w) with
  | none => simp
  | some i =>
    have := (List.findIdx?_eq_some_iff_getElem.1 h).1
    simpa [verbsL] using this
theorem num_len {rest : List (List UInt8)} {lo hi : Int} (h : rest.length ≠ 1) : numD rest lo hi = none := by
  match rest, h with
  | [], _ => rfl
  | [_], h => exact absurd rfl h
  | _ :: _ :: _, _ => rfl
theorem find_headD (w : List UInt8) (h : headD w ≠ 0) : findD 0 w = none := by
  have hr : findD 0 areaW = none ∧ findD 0 faceW = none := ⟨rfl, rfl⟩
  unfold headD at h
  split at h
  · rename_i e; rw [e]; exact hr.1
  · split at h
    · rename_i e; rw [e]; exact hr.2
    · exact absurd rfl h
theorem find_nil (w : List UInt8) : findD (headD w) [] = none := by
  unfold headD; split
  · rfl
  · split <;> rfl
theorem doc_delete (rest : List (List UInt8)) (hne : rest ≠ []) : docSD 2 rest = (pathD rest).map fun p => ⟨2, p.1, p.2.1, p.2.2, [], 0⟩ := by
  match rest, hne with
  | [a], _ =>
    rw [doc1, path1]
    by_cases h : headD a = 0
    · rw [if_pos h, docin1, if_pos rfl]
      split <;> rfl
    · rw [if_neg h, find_headD a h]; rfl
  | [a, b], _ =>
    rw [doc1, path2]
    by_cases h : headD a = 0
    · rw [if_pos h, if_neg (by simp [h]), docin2, if_neg (by decide)]; rfl
    · rw [if_neg h]
      by_cases hn : namedB (headD a) b = true
      · simp [hn, h]
      · simp [hn]
  | [a, b, c], _ =>
    rw [doc1, path3]
    by_cases h : headD a = 0
    · rw [if_pos h, if_neg (by simp [h]), docin3]; rfl
    · rw [if_neg h]
      by_cases hn : namedB (headD a) b = true
      · simp only [hn, if_true]
        rw [if_neg (by simp), if_pos ⟨h, trivial⟩, docin1, if_pos rfl]
        split <;> rfl
      · simp [hn]
  | a :: b :: c :: d :: r, _ =>
    rw [doc1, path4]
    by_cases h : headD a = 0
    · rw [if_pos h, docin3]; rfl
    · rw [if_neg h]
      by_cases hn : namedB (headD a) b = true
      · simp only [hn, if_true]
        rw [if_neg (by simp)]
        cases r with
        | nil => rw [docin2, if_neg (by decide)]; rfl
        | cons e r => rw [docin3]; rfl
      · simp [hn]
theorem doc_set (rest : List (List UInt8)) (hne : rest ≠ []) : docSD 1 rest = settingD rest := by
  match rest, hne with
  | [a], _ =>
    rw [doc1]
    unfold settingD
    rw [show ([a] : List (List UInt8)).dropLast = [] from rfl, path0]
    by_cases h : headD a = 0
    · rw [if_pos h, docin1, if_neg (by decide)]
    · rw [if_neg h]
  | [a, b], _ =>
    rw [doc1]
    unfold settingD
    rw [show ([a, b] : List (List UInt8)).dropLast = [a] from rfl, show ([a, b] : List (List UInt8)).getLastD [] = b from rfl, path1]
    by_cases h : headD a = 0
    · rw [if_pos h, docin2, if_pos rfl]
      cases hf : findD 0 a with
      | none => simp
      | some r =>
        have e : rightV 0 a b = rightB r.kind r.lo r.hi r.cs b := by unfold rightV; rw [hf]
        simp [e]
    · rw [if_neg h, find_headD a h]
      by_cases hn : namedB (headD a) b = true
      · simp only [hn, if_true]
        rw [if_neg (by simp), docin0]; rfl
      · simp [hn]
  | [a, b, c], _ =>
    rw [doc1]
    unfold settingD
    rw [show ([a, b, c] : List (List UInt8)).dropLast = [a, b] from rfl, show ([a, b, c] : List (List UInt8)).getLastD [] = c from rfl, path2]
    by_cases h : headD a = 0
    · rw [if_pos h, docin3, if_neg (by simp [h])]
    · rw [if_neg h]
      by_cases hn : namedB (headD a) b = true
      · simp only [hn, if_true]
        rw [if_neg (by simp), if_pos ⟨h, trivial⟩, docin1, if_neg (by decide)]
        have e : rightV (headD a) [] c = false := by unfold rightV; rw [find_nil]
        simp [e]
      · simp [hn]
  | [a, b, c, d], _ =>
    rw [doc1]
    unfold settingD
    rw [show ([a, b, c, d] : List (List UInt8)).dropLast = [a, b, c] from rfl, show ([a, b, c, d] : List (List UInt8)).getLastD [] = d from rfl, path3]
    by_cases h : headD a = 0
    · rw [if_pos h, docin3, if_neg (by simp [h])]
    · rw [if_neg h]
      by_cases hn : namedB (headD a) b = true
      · simp only [hn, if_true]
        rw [if_neg (by simp), if_pos ⟨h, trivial⟩, docin2, if_pos rfl]
        cases hf : findD (headD a) c with
        | none => simp
        | some r =>
          have e : rightV (headD a) c d = rightB r.kind r.lo r.hi r.cs d := by unfold rightV; rw [hf]
          simp [e]
      · simp [hn]
  | a :: b :: c :: d :: e :: r, _ =>
    rw [doc1]
    unfold settingD
    rw [show (a :: b :: c :: d :: e :: r : List (List UInt8)).dropLast = a :: b :: c :: d :: (e :: r).dropLast from rfl, path4]
    by_cases h : headD a = 0
    · rw [if_pos h, docin3]
    · rw [if_neg h]
      by_cases hn : namedB (headD a) b = true
      · simp only [hn, if_true]
        rw [if_neg (by simp), docin3]
      · simp [hn]
theorem doc_words (ws : List (List UInt8)) : docD ws = wordsD ws := by
  cases ws with
  | nil => rfl
  | cons v rest =>
    unfold docD wordsD
    simp only
    by_cases hs : (v :: rest).any signW = true
    · rw [if_pos hs]
      obtain ⟨w, hw, h⟩ := List.any_eq_true.1 hs
      unfold cmdD
      rcases List.mem_cons.1 hw with rfl | hw
      · rw [if_pos (sign_verb h)]
      · have hne : rest ≠ [] := by rintro rfl; cases hw
        rw [setting_sign hw h, path_sign hw h, num_sign hw h, num_sign hw h, if_neg hne]
        simp
    · rw [if_neg hs]
      unfold cmdD
      have hv := verb_lt v
      generalize verbD v = k at hv ⊢
      have hk : k = 0 ∨ k = 1 ∨ k = 2 ∨ k = 3 ∨ k = 4 ∨ k = 5 ∨ k = 6 ∨ k = 7 ∨ k = 8 ∨ k = 9 := by omega
      by_cases hne : rest = []
      · subst hne
        rcases hk with rfl | rfl | rfl | rfl | rfl | rfl | rfl | rfl | rfl | rfl <;> simp [settingD, pathD, numD]
      · rcases hk with rfl | rfl | rfl | rfl | rfl | rfl | rfl | rfl | rfl | rfl
        · simp
        · simp [hne]; exact doc_set rest hne
        · simp [hne]; exact doc_delete rest hne
        · simp
        · simp
        · simp
        · simp
        · by_cases hl : rest.length = 1
          · simp [hl]
          · simp [hl, num_len hl]
        · simp
        · by_cases hl : rest.length = 1
          · simp [hl]
          · simp [hl, num_len hl]
end Go.Proofs.YtljfeefhlbgopaaDoor
/- The document's table and its Find, walked. -/
namespace Go.Proofs.YtljfeefhlbgopaaDoor
open Go.RowKit

theorem rowInfo4 : (Tryd.prog.info? 69).map (·.size) = some 8 := by kernel_rfl
set_option maxRecDepth 100000 in
set_option maxHeartbeats 4000000 in
theorem rTable_any (w : World) : Calls Tryd.prog 43 #[] w (TablePost w) := by
  go_enter Tryd.func43, Tryd.ntmps43
  go_wp2
  go_ret
  exact tablePost_of _ _ _ rfl rfl rfl

/-- what the document's Find answers; its row's choices lie in a new block -/
def FindPostF (f : Option RowD) (w : World) (e : Ending) (w' : World) : Prop :=
  match f with
  | some r => ∃ p cc, e = .returned (.tuple #[.agg #[.int .i64 r.head, strv r.name, .int .i64 r.kind, .int .i64 r.lo, .int .i64 r.hi, .slice p r.cs.length cc, strv r.df, .int .i64 r.cl], .bool true]) ∧ StrsAt w' (.slice p r.cs.length cc) r.cs ∧ (∀ i, (Value.slice p r.cs.length cc).ownBlock = some i → w.heap.size ≤ i) ∧ Keeps (fun _ => False) w w'
  | none => e = .returned (.tuple #[.agg zeroRow, .bool false]) ∧ Keeps (fun _ => False) w w'
set_option maxRecDepth 100000 in
set_option maxHeartbeats 2000000 in
theorem rFind_new (head : Int) (nm : ByteArray) (f : Option RowD) (w : World) (hf : Hid (findD head nm.data.toList = f)) :
    Calls Tryd.prog 34 #[.int .i64 head, .string nm] w (FindPostF f w) := by
  go_enter Tryd.func34, Tryd.ntmps34
  go_wp2_with fail
  refine (rTable_any _).mono ?_
  rintro e w1 ⟨g, rfl, hg, ht, hk⟩
  have hb : w1.heap[w.heap.size]? = some (.cells zeroRow 69 (0, 0)) := by
    rw [hk.block _ (by simp) id]
    exact heap_alloc_last w _
  have hb' := Lib.hid hb; have ht' := Lib.hid (show TableAt (w.heap.size + 1) w1 g by simpa using ht); have hk' := Lib.hid (((Keeps.refl (fun _ => False) w).alloc _).trans hk)
  have hgs : w.heap.size + 1 ≤ g := by simpa using hg
  clear hb ht hk hg
  go_wp2_with fail
  go_loopw [7] (fun i wr => ∃ k : Nat, k ≤ 12 ∧ i = .int .i64 k ∧ Hid (∀ (i : Nat) (q : RowD), i < k → tableD[i]? = some q → ¬ (q.head = head ∧ q.name = nm.data.toList)) ∧ Hid (TableAt (w.heap.size + 1) wr g) ∧ Hid (wr.heap[w.heap.size]? = some (.cells zeroRow 69 (0, 0))) ∧ Hid (Keeps (fun _ => False) w wr)) (fun i _ => 12 - (intOf i).toNat)
  case atStart => exact ⟨0, by omega, rfl, Lib.hid (fun _ _ h => by omega), ht', hb', hk'⟩
  case round =>
    obtain ⟨k, hk12, rfl, hno, htr, hbr, hkr⟩ := hrel
    by_cases hlt : k < 12
    · obtain ⟨r, hr⟩ : ∃ r, tableD[k]? = some r := ⟨_, List.getElem?_eq_getElem (show k < tableD.length from hlt)⟩
      obtain ⟨cv, hrange, hcs, hbk⟩ := htr.out k r hr
      obtain ⟨p, cc, rfl, hcs0⟩ := hcs
      have hbkeep := Lib.hid hbk; clear hbk
      have hcs' : Hid (StrsAt wr (.slice p r.cs.length cc) r.cs) := Lib.hid ⟨p, cc, rfl, hcs0⟩
      obtain ⟨N, hN⟩ : ∃ N : ByteArray, N = ⟨r.name.toArray⟩ := ⟨_, rfl⟩
      obtain ⟨F, hF⟩ : ∃ F : ByteArray, F = ⟨r.df.toArray⟩ := ⟨_, rfl⟩
      have hra : Hid (wr.rangeAt g (k * 8) [.int .i64 r.head, .string N, .int .i64 r.kind, .int .i64 r.lo, .int .i64 r.hi, .slice p r.cs.length cc, .string F, .int .i64 r.cl]) := Lib.hid (by rw [hN, hF]; exact hrange)
      have a0 : wr.cell? ⟨g, k * 8, none⟩ = some (.int .i64 r.head) := hra.out 0 _ rfl
      have a1 : wr.cell? ⟨g, k * 8 + 1, none⟩ = some (.string N) := hra.out 1 _ rfl
      have hNl : N.toList = r.name := by rw [hN, Lib.toList_data]
      have hN' := Lib.hid hN; have hF' := Lib.hid hF; have hr' := Lib.hid hr
      clear hcs0 hrange hN hF hr
      by_cases hh : r.head = head
      · have e1 : (r.head == head) = true := by simpa using hh
        by_cases hn : r.name = nm.data.toList
        · have e2 : (N.toList == nm.toList) = true := by rw [hNl, Lib.toList_data, hn]; simp
          have hfr : Hid (f = some r) := Lib.hid (by rw [← hf.out]; exact find_step hr'.out hno.out ⟨hh, hn⟩)
          have hNl' := Lib.hid hNl; clear hh hn hNl
          go_wp2_with (first | ((with_reducible refine at_slot 34 ?_); refine wpList_load_mid rfl 69 (.tmp 33) rfl g (k * 8) rfl _ _ hra.out Tryd.underlying69 rfl rowInfo4 ?_) | ((with_reducible refine at_store 4 ?_); refine wpList_store_row_named rfl 69 (.tmp 4) (.tmp 34) rfl w.heap.size #[.int .i64 r.head, .string N, .int .i64 r.kind, .int .i64 r.lo, .int .i64 r.hi, .slice p r.cs.length cc, .string F, .int .i64 r.cl] rfl rfl 69 zeroRow hbr.out rowInfo4 rfl (row_one _ _ _ _ _ _ _ _ _ _) ?_; intro W2 hW2; have hW2' := Lib.hid hW2; clear hW2))
          have hcell : ∀ j, W2.cell? ⟨w.heap.size, j, none⟩ = (#[.int .i64 r.head, .string N, .int .i64 r.kind, .int .i64 r.lo, .int .i64 r.hi, .slice p r.cs.length cc, .string F, .int .i64 r.cl] : Array Value)[j]? := fun j => by rw [hW2'.out]; exact cell_setRow_same _ _ _ _ _ _ _ hbr.out
          have c0 := hcell 0; have c1 := hcell 1; have c2 := hcell 2; have c3 := hcell 3; have c4 := hcell 4; have c5 := hcell 5; have c6 := hcell 6; have c7 := hcell 7
          have kall : Keeps (fun _ => False) w W2 := by rw [hW2'.out]; exact hkr.out.setRow (.inr (Nat.le_refl _)) _
          have hcsW : StrsAt W2 (.slice p r.cs.length cc) r.cs := by
            have h1 := hcs'.out
            rw [hW2'.out]
            refine h1.keep ((Keeps.refl (fun k => k = w.heap.size) _).setRow (.inl rfl) _) (fun h0 i e f => ?_)
            have := hbkeep.out i e
            omega
          have hcell' := Lib.hid hcell; clear hcell
          rw [hfr.out]
          refine bodyPost_ret (v := .tuple #[.agg #[.int .i64 r.head, .string N, .int .i64 r.kind, .int .i64 r.lo, .int .i64 r.hi, .slice p r.cs.length cc, .string F, .int .i64 r.cl], .bool true]) (by simp [results, Tryd.results34, go_sem, c0, c1, c2, c3, c4, c5, c6, c7]) rfl ⟨p, cc, ?_, hcsW, fun i e => by have := hbkeep.out i e; omega, kall⟩
          rw [hN'.out, hF'.out]; rfl
        · have e2 : (N.toList == nm.toList) = false := by rw [hNl, Lib.toList_data]; simpa using hn
          have hno' : Hid (∀ (i : Nat) (q : RowD), i < k + 1 → tableD[i]? = some q → ¬ (q.head = head ∧ q.name = nm.data.toList)) := Lib.hid (fun i q hi hq => by
            by_cases e : i = k
            · subst e
              have : q = r := by rw [hr'.out] at hq; injection hq with hq; exact hq.symm
              subst this
              exact fun ⟨_, b⟩ => hn b
            · exact hno.out i q (by omega) hq)
          have hNl' := Lib.hid hNl; clear hh hn hNl
          go_wp2
          exact ⟨⟨k + 1, by omega, by go_num, hno', htr, hbr, hkr⟩, by simp [intOf]; omega⟩
      · have e1 : (r.head == head) = false := by simpa using hh
        have hno' : Hid (∀ (i : Nat) (q : RowD), i < k + 1 → tableD[i]? = some q → ¬ (q.head = head ∧ q.name = nm.data.toList)) := Lib.hid (fun i q hi hq => by
          by_cases e : i = k
          · subst e
            have : q = r := by rw [hr'.out] at hq; injection hq with hq; exact hq.symm
            subst this
            exact fun ⟨a, _⟩ => hh a
          · exact hno.out i q (by omega) hq)
        have hNl' := Lib.hid hNl; clear hh hNl
        go_wp2
        exact ⟨⟨k + 1, by omega, by go_num, hno', htr, hbr, hkr⟩, by simp [intOf]; omega⟩
    · obtain rfl : k = 12 := by omega
      have hfn : Hid (f = none) := Lib.hid (by rw [← hf.out]; exact find_none hno.out)
      go_wp2_with ((with_reducible refine at_store 4 ?_); refine wpList_store_row_named rfl 69 (.tmp 4) (.tmp 35) rfl w.heap.size zeroRow rfl rfl 69 zeroRow hbr.out rowInfo4 rfl (row_one _ _ _ _ _ _ _ _ _ _) ?_; intro W2 hW2; have hW2' := Lib.hid hW2; clear hW2)
      have hcell : ∀ j, W2.cell? ⟨w.heap.size, j, none⟩ = zeroRow[j]? := fun j => by rw [hW2'.out]; exact cell_setRow_same _ _ _ _ _ _ _ hbr.out
      have c0 := hcell 0; have c1 := hcell 1; have c2 := hcell 2; have c3 := hcell 3; have c4 := hcell 4; have c5 := hcell 5; have c6 := hcell 6; have c7 := hcell 7
      have kall : Keeps (fun _ => False) w W2 := by rw [hW2'.out]; exact hkr.out.setRow (.inr (Nat.le_refl _)) _
      rw [hfn.out]
      refine bodyPost_ret (v := .tuple #[.agg zeroRow, .bool false]) (by simp [results, Tryd.results34, go_sem, c0, c1, c2, c3, c4, c5, c6, c7, zeroRow]) rfl ⟨rfl, kall⟩
theorem rFind_any (head : Int) (nm : ByteArray) (f : Option RowD) (w : World) (hf : Hid (findD head nm.data.toList = f)) :
    Calls Tryd.prog 34 #[.int .i64 head, .string nm] w (FindPost f w) :=
  (rFind_new head nm f w hf).mono fun e w' h => by
    cases f with
    | none => exact h
    | some r => obtain ⟨p, cc, he, hs, _, hk⟩ := h; exact ⟨p, cc, he, hs, hk⟩
end Go.Proofs.YtljfeefhlbgopaaDoor
/- Less, the code's and the document's, walked. -/
namespace Go.Proofs.YtljfeefhlbgopaaDoor
open Go.RowKit

/-- a line, plain -/
structure LineD where
  head : Int
  name : List UInt8
  leaf : List UInt8
  value : List UInt8
def lessB (a b : LineD) : Bool :=
  if a.head = b.head then (if a.name = b.name then Op.bytesLess a.leaf b.leaf else Op.bytesLess a.name b.name) else decide (a.head < b.head)

set_option maxRecDepth 100000 in
theorem less_any (h1 h2 : Int) (n1 l1 v1 n2 l2 v2 : ByteArray) (r : Bool) (w : World) (hr : Hid (lessB ⟨h1, n1.data.toList, l1.data.toList, v1.data.toList⟩ ⟨h2, n2.data.toList, l2.data.toList, v2.data.toList⟩ = r)) :
    Calls Tryd.prog 68 #[.agg #[.int .i64 h1, .string n1, .string l1, .string v1], .agg #[.int .i64 h2, .string n2, .string l2, .string v2]] w (NewRes (.bool r) w) := by
  have hq := hr.out
  unfold lessB at hq
  simp only at hq
  by_cases hh : h1 = h2
  · have e1 : (h1 != h2) = false := by simpa using hh
    rw [if_pos hh] at hq
    by_cases hn : n1.data.toList = n2.data.toList
    · have e2 : (n1.toList == n2.toList) = true := by rw [Lib.toList_data, Lib.toList_data, hn]; simp
      rw [if_pos hn, ← Lib.toList_data l1, ← Lib.toList_data l2] at hq
      have hq' := Lib.hid hq; clear hq hr hh hn
      go_enter Tryd.func68, Tryd.ntmps68
      go_wp2
      go_ret
      exact ⟨by rw [← hq'.out]; rfl, ((Keeps.refl _ _).alloc _).alloc _⟩
    · have e2 : (n1.toList == n2.toList) = false := by rw [Lib.toList_data, Lib.toList_data]; simpa using hn
      rw [if_neg hn, ← Lib.toList_data n1, ← Lib.toList_data n2] at hq
      have hq' := Lib.hid hq; clear hq hr hh hn
      go_enter Tryd.func68, Tryd.ntmps68
      go_wp2
      go_ret
      exact ⟨by rw [← hq'.out]; rfl, ((Keeps.refl _ _).alloc _).alloc _⟩
  · have e1 : (h1 != h2) = true := by simpa using hh
    rw [if_neg hh] at hq
    have hq' := Lib.hid hq; clear hq hr hh
    go_enter Tryd.func68, Tryd.ntmps68
    go_wp2
    go_ret
    exact ⟨by rw [← hq'.out]; rfl, ((Keeps.refl _ _).alloc _).alloc _⟩

set_option maxRecDepth 100000 in
theorem rLess_any (h1 h2 : Int) (n1 l1 v1 n2 l2 v2 : ByteArray) (r : Bool) (w : World) (hr : Hid (lessB ⟨h1, n1.data.toList, l1.data.toList, v1.data.toList⟩ ⟨h2, n2.data.toList, l2.data.toList, v2.data.toList⟩ = r)) :
    Calls Tryd.prog 36 #[.agg #[.int .i64 h1, .string n1, .string l1, .string v1], .agg #[.int .i64 h2, .string n2, .string l2, .string v2]] w (NewRes (.bool r) w) := by
  have hq := hr.out
  unfold lessB at hq
  simp only at hq
  by_cases hh : h1 = h2
  · have e1 : (h1 != h2) = false := by simpa using hh
    rw [if_pos hh] at hq
    by_cases hn : n1.data.toList = n2.data.toList
    · have e2 : (n1.toList == n2.toList) = true := by rw [Lib.toList_data, Lib.toList_data, hn]; simp
      rw [if_pos hn, ← Lib.toList_data l1, ← Lib.toList_data l2] at hq
      have hq' := Lib.hid hq; clear hq hr hh hn
      go_enter Tryd.func36, Tryd.ntmps36
      go_wp2
      go_ret
      exact ⟨by rw [← hq'.out]; rfl, ((Keeps.refl _ _).alloc _).alloc _⟩
    · have e2 : (n1.toList == n2.toList) = false := by rw [Lib.toList_data, Lib.toList_data]; simpa using hn
      rw [if_neg hn, ← Lib.toList_data n1, ← Lib.toList_data n2] at hq
      have hq' := Lib.hid hq; clear hq hr hh hn
      go_enter Tryd.func36, Tryd.ntmps36
      go_wp2
      go_ret
      exact ⟨by rw [← hq'.out]; rfl, ((Keeps.refl _ _).alloc _).alloc _⟩
  · have e1 : (h1 != h2) = true := by simpa using hh
    rw [if_neg hh] at hq
    have hq' := Lib.hid hq; clear hq hr hh
    go_enter Tryd.func36, Tryd.ntmps36
    go_wp2
    go_ret
    exact ⟨by rw [← hq'.out]; rfl, ((Keeps.refl _ _).alloc _).alloc _⟩
end Go.Proofs.YtljfeefhlbgopaaDoor
/- Generic: steps through a region that draws its order; boxes and blocks of cells. -/
namespace Go.Proofs.YtljfeefhlbgopaaDoor
open Go.RowKit

/-! steps through a region that draws its order, the operation read off the list -/
section
variable {P : Program} {l : List Oper} {Q : Exit → Act → World → Prop} {md : Region.Mode} {S : World → Prop}
theorem takeL (i : Nat) {oi : Oper} {v : Value} {fuel : Nat} {listed : Array Bool} {a : Act} {w : World} (hi : l[i]? = some oi)
    (hs : Region.noSelect l.toArray = true) (hf : Region.free md l.toArray listed i = true) (hr : (Region.ready md l.toArray listed).contains i = true)
    (hQ : ∀ c a w, Q (.panic c) (a.put oi.dst v) w → Q (.panic c) a w) (hy : YieldsIf P l.toArray S oi v a) (hS : S w)
    (h : wpAnyH P md l.toArray Q S fuel (listed.setIfInBounds i true) (a.put oi.dst v) w) : wpAnyH P md l.toArray Q S (fuel + 1) listed a w :=
  wpAnyH_take (i := i) (by simpa using hi) hs hf hr hQ hy hS h
theorem sA {α : Type} {l : List α} {i : Nat} {a : α} : l.toArray.setIfInBounds i a = (l.set i a).toArray := List.setIfInBounds_toArray ..
theorem sZ {α : Type} {xs : List α} {b a : α} : (a :: xs).set 0 b = b :: xs := rfl
theorem sS {α : Type} {xs : List α} {n : Nat} {b a : α} : (a :: xs).set (n + 1) b = a :: xs.set n b := rfl
theorem tk (i : Nat) {oi : Oper} {v : Value} {fuel : Nat} {listed : Array Bool} {a a' : Act} {w : World} (hi : l[i]? = some oi) (h : wpAnyH P md l.toArray Q S fuel (listed.setIfInBounds i true) a' w)
    (hs : Region.noSelect l.toArray = true := by kernel_rfl) (hf : Region.free md l.toArray listed i = true := by kernel_rfl) (hr : (Region.ready md l.toArray listed).contains i = true := by kernel_rfl)
    (hw : Region.wanted oi (yielded l.toArray a.tmps) = true := by rfl) (hy : ∀ w, S w → (execOp a.eval oi).run P w = .ok (.value v) w := by (intro wS hSw; go_simp; try with_reducible rfl))
    (ha : a.put oi.dst v = a' := by (try simp only [Act.put, sA, sZ, sS]; rfl))
    (hQ : ∀ c a w, Q (.panic c) (a.put oi.dst v) w → Q (.panic c) a w := by exact fun _ _ _ h => h) (hS : S w := by assumption) : wpAnyH P md l.toArray Q S (fuel + 1) listed a w :=
  takeL i hi hs hf hr hQ (Or.inl ⟨hw, hy⟩) hS (by rw [ha]; exact h)
theorem tkS (i : Nat) {oi : Oper} {fuel : Nat} {listed : Array Bool} {a a' : Act} {w : World} (hi : l[i]? = some oi) (h : wpAnyH P md l.toArray Q S fuel (listed.setIfInBounds i true) a' w)
    (hs : Region.noSelect l.toArray = true := by kernel_rfl) (hf : Region.free md l.toArray listed i = true := by kernel_rfl) (hr : (Region.ready md l.toArray listed).contains i = true := by kernel_rfl)
    (hw : Region.wanted oi (yielded l.toArray a.tmps) = false := by rfl)
    (ha : a.put oi.dst undef = a' := by (try simp only [Act.put, sA, sZ, sS]; rfl))
    (hQ : ∀ c a w, Q (.panic c) (a.put oi.dst undef) w → Q (.panic c) a w := by exact fun _ _ _ h => h) (hS : S w := by assumption) : wpAnyH P md l.toArray Q S (fuel + 1) listed a w :=
  takeL i hi hs hf hr hQ (Or.inr ⟨hw, rfl⟩) hS (by rw [ha]; exact h)
theorem tkL (i : Nat) {oi : Oper} {v : Value} {fuel : Nat} {listed : Array Bool} {a a' : Act} {w : World} (hi : l[i]? = some oi) (hy : YieldsIf P l.toArray S oi v a) (h : wpAnyH P md l.toArray Q S fuel (listed.setIfInBounds i true) a' w)
    (hs : Region.noSelect l.toArray = true := by kernel_rfl) (hf : Region.free md l.toArray listed i = true := by kernel_rfl) (hr : (Region.ready md l.toArray listed).contains i = true := by kernel_rfl)
    (ha : a.put oi.dst v = a' := by (try simp only [Act.put, sA, sZ, sS]; rfl))
    (hQ : ∀ c a w, Q (.panic c) (a.put oi.dst v) w → Q (.panic c) a w := by exact fun _ _ _ h => h) (hS : S w := by assumption) : wpAnyH P md l.toArray Q S (fuel + 1) listed a w :=
  takeL i hi hs hf hr hQ hy hS (by rw [ha]; exact h)
theorem step2L (i j : Nat) {fuel : Nat} {listed : Array Bool} {a : Act} {w : World} {o u : Oper} (ho : l[i]? = some o) (hu : l[j]? = some u) (hr : Region.ready md l.toArray listed = [i, j])
    (h : ∀ K' : Act → World → Prop, Shut (∀ a w, S w → (S w → wpAnyH P md l.toArray Q S fuel (listed.setIfInBounds i true) a w) → K' a w) → if Region.wanted o (yielded l.toArray a.tmps) = true then Oper.wp P o a w K' Q else K' (a.put o.dst undef) w)
    (h2 : ∀ K' : Act → World → Prop, Shut (∀ a w, S w → (S w → wpAnyH P md l.toArray Q S fuel (listed.setIfInBounds j true) a w) → K' a w) → if Region.wanted u (yielded l.toArray a.tmps) = true then Oper.wp P u a w K' Q else K' (a.put u.dst undef) w) :
    wpAnyH P md l.toArray Q S (fuel + 1) listed a w :=
  wpAnyH_ready hr (by simp) (AllReadyH.cons (by simpa using ho) h (AllReadyH.cons (by simpa using hu) h2 AllReadyH.nil))
theorem stepL (i : Nat) {fuel : Nat} {listed : Array Bool} {a : Act} {w : World} {o : Oper} (ho : l[i]? = some o) (hr : Region.ready md l.toArray listed = [i])
    (h : ∀ K' : Act → World → Prop, Shut (∀ a w, S w → (S w → wpAnyH P md l.toArray Q S fuel (listed.setIfInBounds i true) a w) → K' a w) → if Region.wanted o (yielded l.toArray a.tmps) = true then Oper.wp P o a w K' Q else K' (a.put o.dst undef) w) :
    wpAnyH P md l.toArray Q S (fuel + 1) listed a w :=
  wpAnyH_ready hr (by simp) (AllReadyH.cons (by simpa using ho) h AllReadyH.nil)
end

theorem heap_put {w : World} {b : Nat} {cs : Array Value} {t : TypeId} (h : w.heap[b]? = some (.cells cs t (0, 0))) (o : Nat) (v : Value) : (w.setCell ⟨b, o, none⟩ v).heap[b]? = some (.cells (cs.setIfInBounds o v) t (0, 0)) :=
  heap_setCell_same w b o cs t v h
theorem rangeAt_cell {w : World} {g : Nat} {cs : List Value} (h : w.rangeAt g 0 cs) (j : Nat) (v : Value) (hv : cs[j]? = some v) : w.cell? ⟨g, j, none⟩ = some v := by
  have := h j v hv; rwa [Nat.zero_add] at this
theorem yieldsIf_load_cell {P : Program} {ops : Array Oper} {S : World → Prop} {op : Oper} {a : Act} (hw : Region.wanted op (yielded ops a.tmps) = true) (ty : TypeId) (x : Operand) (ho : op.op = .load ty x)
    (b o : Nat) (hx : a.eval x = .pointer (some ⟨b, o, none⟩)) (v : Value) (hS : ∀ w, S w → w.cell? ⟨b, o, none⟩ = some v)
    (hl : ∀ w, w.cell? ⟨b, o, none⟩ = some v → (loadVar ty ⟨b, o, none⟩).run P w = .ok v w) : YieldsIf P ops S op v a :=
  .inl ⟨hw, fun w hw' => by
    unfold execOp
    simp only [ho, hx, Instr.loadAt, Instr.sureAddr, Sem.run_bind, Sem.run_pure, Result.andThen_ok, hl w (hS w hw')]⟩
/-- a box of cells, and what was there, are as they were -/
structure Boxed (B : Nat) (cs : List Value) (w0 W : World) : Prop where
  r : W.rangeAt B 0 cs
  k : Keeps (fun _ => False) w0 W
theorem Boxed.next {B : Nat} {cs : List Value} {w0 W W' : World} (s : Boxed B cs w0 W) (k : Keeps (fun _ => False) W W') : Boxed B cs w0 W' := ⟨k.rangeAt s.r id, s.k.trans k⟩
theorem Boxed.cell {B : Nat} {cs : List Value} {w0 W : World} (s : Boxed B cs w0 W) (j : Nat) (v : Value) (h : cs[j]? = some v) : W.cell? ⟨B, j, none⟩ = some v := by
  have := s.r j v h; rwa [Nat.zero_add] at this
theorem new_rangeb (w : World) (L : List Value) (t : TypeId) : (w.alloc (.cells L.toArray t)).rangeAt w.heap.size 0 L := fun j u hu => by
  have := cells_new (w := w) (n := w.heap.size) rfl L t j u hu
  rw [Addr.add_mid] at this; exact this
theorem boxed_new0 (w : World) (cs : List Value) (t : TypeId) : Boxed w.heap.size cs (w.alloc (.cells cs.toArray t)) (w.alloc (.cells cs.toArray t)) := ⟨fun j u hu => by
  have := cells_new (w := w) (n := w.heap.size) rfl cs t j u hu
  rw [Addr.add_mid] at this; exact this, Keeps.refl _ _⟩
theorem boxed_new (w : World) (cs : List Value) (t : TypeId) : Boxed w.heap.size cs w (w.alloc (.cells cs.toArray t)) := ⟨fun j u hu => by
  have := cells_new (w := w) (n := w.heap.size) rfl cs t j u hu
  rw [Addr.add_mid] at this; exact this, (Keeps.refl _ _).alloc _⟩
/-- a block that is these cells -/
def BlkAt (W : World) (B : Nat) (t : TypeId) (cs : List Value) : Prop := W.heap[B]? = some (.cells cs.toArray t (0, 0))
theorem BlkAt.keep {F : Nat → Prop} {w w' : World} {g : Nat} {t : TypeId} {x : List Value} (h : BlkAt w g t x) (k : Keeps F w w') (hF : ¬ F g) : BlkAt w' g t x := by
  unfold BlkAt; rw [k.block g (lt_of_block h) hF]; exact h
theorem BlkAt.range {w : World} {g : Nat} {t : TypeId} {x : List Value} (h : BlkAt w g t x) : w.rangeAt g 0 x := fun j u hu => by
  have h : w.heap[g]? = _ := h
  simp [World.cell?, h]; simpa using hu
theorem BlkAt.rng {w : World} {g : Nat} {t : TypeId} {x y : List Value} (h : BlkAt w g t x) (e : x = y) : w.rangeAt g 0 y := by rw [← e]; exact h.range
theorem BlkAt.cell {w : World} {g : Nat} {t : TypeId} {x : List Value} (h : BlkAt w g t x) (j : Nat) (v : Value) (hv : x[j]? = some v) : w.cell? ⟨g, j, none⟩ = some v := rangeAt_cell h.range j v hv
theorem BlkAt.frozen {w : World} {g : Nat} {t : TypeId} {x : List Value} (h : BlkAt w g t x) (o : Nat) : w.frozen? ⟨g, o, none⟩ = false := by
  have h : w.heap[g]? = _ := h
  simp [World.frozen?, h]
theorem BlkAt.set {w : World} {g : Nat} {t : TypeId} {x : List Value} (h : BlkAt w g t x) (i : Nat) (v : Value) : BlkAt (w.setCell ⟨g, i, none⟩ v) g t (x.set i v) := by
  unfold BlkAt
  rw [heap_put h]
  simp
theorem BlkAt.there {w : World} {g : Nat} {t : TypeId} {x : List Value} (h : BlkAt w g t x) (o n : Nat) (hn : o + n ≤ x.length) : w.there g o n := fun j hj => by
  have h : w.heap[g]? = _ := h
  refine ⟨?_, ?_⟩
  · simp [World.cell?, h]; omega
  · simp [World.frozen?, h]
theorem BlkAt.new (w : World) (t : TypeId) (x : List Value) : BlkAt (w.alloc (.cells x.toArray t)) w.heap.size t x := heap_alloc_last w _
theorem BlkAt.alloc {w : World} {g : Nat} {t : TypeId} {x : List Value} (h : BlkAt w g t x) (o : Obj) : BlkAt (w.alloc o) g t x := h.keep ((Keeps.refl (fun _ => False) w).alloc o) id
theorem wpList_store_blk {P : Program} {ops : Array Oper} {rest : List Oper} {op : Oper} {a : Act} {w : World} {Q : Exit → Act → World → Prop} (hgd : op.guard = none) (ty : TypeId) (x y : Operand) (ho : op.op = .store ty x y)
    (b : Nat) (cells : Array Value) (hx : a.eval x = .pointer (some ⟨b, 0, none⟩)) (hy : a.eval y = .agg cells)
    (ht : w.there b 0 cells.size) (hi : (P.info? ty).map (·.size) = some cells.size) (h1 : cells.all (·.oneCell') = true)
    (h : ∀ w1, Hid (w1.rangeAt b 0 cells.toList) → Hid (Keeps (fun i => i = b) w w1) → wpList P ops Q rest (a.put op.dst undef) w1) : wpList P ops Q (op :: rest) a w :=
  wpList_store_mid hgd ty x y ho b 0 cells hx hy ht hi h1 (h _ (Lib.hid (World.rangeAt_setCells_same _ _ _ _ (by simpa using ht))) (Lib.hid (Keeps.setCells (F := fun i => i = b) (.inl rfl) _ _ _ (Keeps.refl _ _))))
theorem slice_one (p : Option Addr) (n c : Nat) : (Value.slice p n c).oneCell' = true := rfl
/-- a guarded load of a struct -/
theorem wpList_load_mid_gd {P : Program} {ops : Array Oper} {rest : List Oper} {op : Oper} {a : Act} {w : World} {Q : Exit → Act → World → Prop} (hgd : Region.wanted op (yielded ops a.tmps) = true) (ty : TypeId) (x : Operand) (ho : op.op = .load ty x)
    (b o : Nat) (hx : a.eval x = .pointer (some ⟨b, o, none⟩)) (cs : List Value) (d : TypeDesc) (hc : w.rangeAt b o cs)
    (hu : P.underlying ty = some d) (hd : d.isRow = true) (hi : (P.info? ty).map (·.size) = some cs.length)
    (h : wpList P ops Q rest (a.put op.dst (.agg cs.toArray)) w) : wpList P ops Q (op :: rest) a w :=
  wpList_step fun K hK => by rw [if_pos hgd]; exact wp_load_mid ty x ho b o hx cs d hc hu hd hi (hK _ _ h)
end Go.Proofs.YtljfeefhlbgopaaDoor
/- canBe, walked. -/
namespace Go.Proofs.YtljfeefhlbgopaaDoor
open Go.RowKit

theorem load_int (w : World) (b o : Nat) (v : Value) (h : w.cell? ⟨b, o, none⟩ = some v) : (loadVar 3 ⟨b, o, none⟩).run Tryd.prog w = .ok v w := by
  simp [go_sem, h]
theorem load_str (w : World) (b o : Nat) (v : Value) (h : w.cell? ⟨b, o, none⟩ = some v) : (loadVar 9 ⟨b, o, none⟩).run Tryd.prog w = .ok v w := by
  simp [go_sem, h]
/-- may a line be -/
def lineB (l : LineD) : Bool := match findD l.head l.leaf with
  | some r => namedB l.head l.name && rightB r.kind r.lo r.hi r.cs l.value
  | none => false
/-- what the region of a found row keeps -/
structure CanS (g o : Nat) (L : List Value) (p : Option Addr) (n c : Nat) (cs : List (List UInt8)) (B : Nat) (h : Int) (N F V : ByteArray) (w0 W : World) : Prop where
  r : W.rangeAt g o L
  s : StrsAt W (.slice p n c) cs
  b0 : W.cell? ⟨B, 0, none⟩ = some (.int .i64 h)
  b1 : W.cell? ⟨B, 1, none⟩ = some (.string N)
  b2 : W.cell? ⟨B, 2, none⟩ = some (.string F)
  b3 : W.cell? ⟨B, 3, none⟩ = some (.string V)
  k : Keeps (fun _ => False) w0 W
theorem CanS.next {g o : Nat} {L : List Value} {p : Option Addr} {n c : Nat} {cs : List (List UInt8)} {B : Nat} {h : Int} {N F V : ByteArray} {w0 W W' : World} (s : CanS g o L p n c cs B h N F V w0 W) (k : Keeps (fun _ => False) W W') : CanS g o L p n c cs B h N F V w0 W' :=
  ⟨k.rangeAt s.r id, s.s.keep k (fun _ _ _ f => f), (k.cell (p := ⟨B, 0, none⟩) (World.block_lt_of_cell? W _ s.b0) id).trans s.b0, (k.cell (p := ⟨B, 1, none⟩) (World.block_lt_of_cell? W _ s.b1) id).trans s.b1, (k.cell (p := ⟨B, 2, none⟩) (World.block_lt_of_cell? W _ s.b2) id).trans s.b2, (k.cell (p := ⟨B, 3, none⟩) (World.block_lt_of_cell? W _ s.b3) id).trans s.b3, s.k.trans k⟩

set_option maxRecDepth 100000 in
set_option maxHeartbeats 4000000 in
theorem canBe_any (h : Int) (N F V : ByteArray) (g Bt : Nat) (z : Bool) (w : World) (hn : N.size ≤ 9223372036854775807) (hv : V.size ≤ 9223372036854775807) (ht : Hid (TableAt Bt w g))
    (hz : Hid (lineB ⟨h, N.data.toList, F.data.toList, V.data.toList⟩ = z)) :
    Calls Tryd.prog 63 #[.agg #[.int .i64 h, .string N, .string F, .string V], .slice (some ⟨g, 0, none⟩) 12 12] w (NewRes (.bool z) w) := by
  go_enter Tryd.func63, Tryd.ntmps63
  go_wp2
  go_loopw [8] (fun i wr => ∃ k : Nat, k ≤ 12 ∧ i = .int .i64 k ∧ Hid (∀ (i : Nat) (q : RowD), i < k → tableD[i]? = some q → ¬ (q.head = h ∧ q.name = F.data.toList)) ∧ Hid (∃ m, wr = (w.alloc (.cells #[.int .i64 h, .string N, .string F, .string V] 52)).drewN m)) (fun i _ => 12 - (intOf i).toNat)
  case atStart => exact ⟨0, by omega, rfl, Lib.hid (fun _ _ h => by omega), Lib.hid ⟨0, rfl⟩⟩
  case round =>
    obtain ⟨k, hk12, rfl, hno, hm⟩ := hrel
    have b0 : wr.cell? ⟨w.heap.size, 0, none⟩ = some (.int .i64 h) := by obtain ⟨m, rfl⟩ := hm.out; simp [go_sem]
    have b1 : wr.cell? ⟨w.heap.size, 1, none⟩ = some (.string N) := by obtain ⟨m, rfl⟩ := hm.out; simp [go_sem]
    have b2 : wr.cell? ⟨w.heap.size, 2, none⟩ = some (.string F) := by obtain ⟨m, rfl⟩ := hm.out; simp [go_sem]
    have b3 : wr.cell? ⟨w.heap.size, 3, none⟩ = some (.string V) := by obtain ⟨m, rfl⟩ := hm.out; simp [go_sem]
    have kw : Keeps (fun _ => False) w wr := by obtain ⟨m, rfl⟩ := hm.out; exact ((Keeps.refl _ _).alloc _).drewN m
    by_cases hlt : k < 12
    · obtain ⟨r, hr⟩ : ∃ r, tableD[k]? = some r := ⟨_, List.getElem?_eq_getElem (show k < tableD.length from hlt)⟩
      obtain ⟨cv, hrange, hcs, -⟩ := (ht.out.keep kw) k r hr
      obtain ⟨p, cc, rfl, hcs0⟩ := hcs
      obtain ⟨Nm, hNm⟩ : ∃ Nm : ByteArray, Nm = ⟨r.name.toArray⟩ := ⟨_, rfl⟩
      obtain ⟨Df, hDf⟩ : ∃ Df : ByteArray, Df = ⟨r.df.toArray⟩ := ⟨_, rfl⟩
      have hra : wr.rangeAt g (k * 8) [.int .i64 r.head, .string Nm, .int .i64 r.kind, .int .i64 r.lo, .int .i64 r.hi, .slice p r.cs.length cc, .string Df, .int .i64 r.cl] := by rw [hNm, hDf]; exact hrange
      have a0 : wr.cell? ⟨g, k * 8, none⟩ = some (.int .i64 r.head) := hra 0 _ rfl
      have a1 : wr.cell? ⟨g, k * 8 + 1, none⟩ = some (.string Nm) := hra 1 _ rfl
      have hS0 : Hid (CanS g (k * 8) [.int .i64 r.head, .string Nm, .int .i64 r.kind, .int .i64 r.lo, .int .i64 r.hi, .slice p r.cs.length cc, .string Df, .int .i64 r.cl] p r.cs.length cc r.cs w.heap.size h N F V wr wr) := Lib.hid ⟨hra, ⟨p, cc, rfl, hcs0⟩, b0, b1, b2, b3, Keeps.refl _ _⟩
      have hNl : Nm.toList = r.name := by rw [hNm, Lib.toList_data]
      have hcl : r.cs.length ≤ 1000 := by
        have : ∀ q ∈ tableD, q.cs.length ≤ 1000 := by decide
        exact this r (List.mem_of_getElem? hr)
      have hr' := Lib.hid hr; have kw' := Lib.hid kw
      clear hra hrange hcs0 hNm hDf hr kw
      by_cases hh : r.head = h
      · have e1 : (r.head == h) = true := by simpa using hh
        by_cases hn2 : r.name = F.data.toList
        · have e2 : (Nm.toList == F.toList) = true := by rw [hNl, Lib.toList_data, hn2]; simp
          have hfr := find_step hr'.out hno.out ⟨hh, hn2⟩
          have hzz := hz.out
          unfold lineB at hzz
          simp only [hfr] at hzz
          have hzz' := Lib.hid hzz; clear hzz hfr hh hn2
          have hNl' := Lib.hid hNl; clear hNl
          go_wp2
          go_quiet (fail)
          go_wp2
          obtain ⟨zn, hzn⟩ : ∃ zn, namedB h N.data.toList = zn := ⟨_, rfl⟩
          obtain ⟨zr, hzr⟩ : ∃ zr, rightB r.kind r.lo r.hi r.cs V.data.toList = zr := ⟨_, rfl⟩
          have hzq : (zn && zr) = z := by rw [← hzz'.out, hzn, hzr]
          have hzn' := Lib.hid hzn; have hzr' := Lib.hid hzr
          clear hzn hzr
          cases zn with
          | true =>
            have hz2 : zr = z := hzq
            clear hzq
            subst hz2
            refine wp_region_noPanic ?_
            refine wp_region_held_drew (S := (fun W => CanS g (k * 8) [.int .i64 r.head, .string Nm, .int .i64 r.kind, .int .i64 r.lo, .int .i64 r.hi, .slice p r.cs.length cc, .string Df, .int .i64 r.cl] p r.cs.length cc r.cs w.heap.size h N F V wr W)) (by kernel_rfl) (hS0.out.next (((Keeps.refl _ _).drewN nq).drew)) (fun hHeld => ?_)
            refine tk 0 rfl ?_
            refine tkL 1 rfl (yieldsIf_load_cell (by rfl) 3 (.tmp 29) rfl w.heap.size 0 rfl _ (fun _ s => s.b0) (fun w s => load_int w _ _ _ s)) ?_
            refine tk 2 rfl ?_
            refine tkL 3 rfl (yieldsIf_load_cell (by rfl) 9 (.tmp 31) rfl w.heap.size 1 rfl _ (fun _ s => s.b1) (fun w s => load_str w _ _ _ s)) ?_
            refine stepL 4 rfl (by kernel_rfl) (fun K hK => ?_)
            go_simp
            (refine (named_any h N true _ hn hzn').mono ?_; rintro e w4 ⟨rfl, m4, rfl⟩)
            go_wp2_with fail
            refine hK.out _ _ (hHeld.next ⟨rfl, rfl, rfl, Nat.le_refl _, fun _ _ _ => rfl⟩) (fun hHeld => ?_)
            clear hK K
            try simp only [Act.put, sA, sZ, sS]
            refine tk 5 rfl ?_
            refine tk 6 rfl ?_
            refine tk 7 rfl ?_
            refine tk 8 rfl ?_
            refine tkL 9 rfl (yieldsIf_load_mid (by rfl) 87 (.tmp 37) rfl g (k * 8) rfl [.int .i64 r.head, .string Nm, .int .i64 r.kind, .int .i64 r.lo, .int .i64 r.hi, .slice p r.cs.length cc, .string Df, .int .i64 r.cl] _ (fun _ s => s.r) Tryd.underlying87 rfl rowInfo) ?_
            refine tk 10 rfl ?_
            refine tkL 11 rfl (yieldsIf_load_cell (by rfl) 9 (.tmp 39) rfl w.heap.size 3 rfl _ (fun _ s => s.b3) (fun w s => load_str w _ _ _ s)) ?_
            refine stepL 12 rfl (by kernel_rfl) (fun K hK => ?_)
            go_simp
            (refine (right_any r.head Nm Df r.kind r.lo r.hi r.cl p cc r.cs V zr _ hv hcl (Lib.hid hHeld.s) hzr').mono ?_; rintro e w5 ⟨rfl, hk5⟩)
            go_wp2_with fail
            refine hK.out _ _ (hHeld.next hk5) (fun hHeld => ?_)
            clear hK K
            try simp only [Act.put, sA, sZ, sS]
            refine tk 13 rfl ?_
            refine tk 14 rfl ?_
            refine wpAnyH_done (by kernel_rfl) (NoPanic.normal ?_) _
            have hkk := Lib.hid (kw'.out.trans hHeld.k)
            clear hHeld
            go_wp2
            go_ret
            exact ⟨rfl, hkk.out⟩
          | false =>
            have hz2 : false = z := hzq
            clear hzq
            subst hz2
            refine wp_region_noPanic ?_
            refine wp_region_held_drew (S := (fun W => CanS g (k * 8) [.int .i64 r.head, .string Nm, .int .i64 r.kind, .int .i64 r.lo, .int .i64 r.hi, .slice p r.cs.length cc, .string Df, .int .i64 r.cl] p r.cs.length cc r.cs w.heap.size h N F V wr W)) (by kernel_rfl) (hS0.out.next (((Keeps.refl _ _).drewN nq).drew)) (fun hHeld => ?_)
            refine tk 0 rfl ?_
            refine tkL 1 rfl (yieldsIf_load_cell (by rfl) 3 (.tmp 29) rfl w.heap.size 0 rfl _ (fun _ s => s.b0) (fun w s => load_int w _ _ _ s)) ?_
            refine tk 2 rfl ?_
            refine tkL 3 rfl (yieldsIf_load_cell (by rfl) 9 (.tmp 31) rfl w.heap.size 1 rfl _ (fun _ s => s.b1) (fun w s => load_str w _ _ _ s)) ?_
            refine stepL 4 rfl (by kernel_rfl) (fun K hK => ?_)
            go_simp
            (refine (named_any h N false _ hn hzn').mono ?_; rintro e w4 ⟨rfl, m4, rfl⟩)
            go_wp2_with fail
            refine hK.out _ _ (hHeld.next ⟨rfl, rfl, rfl, Nat.le_refl _, fun _ _ _ => rfl⟩) (fun hHeld => ?_)
            clear hK K
            try simp only [Act.put, sA, sZ, sS]
            refine tk 5 rfl ?_
            refine tkS 6 rfl ?_
            refine tkS 7 rfl ?_
            refine tkS 8 rfl ?_
            refine tkS 9 rfl ?_
            refine tkS 10 rfl ?_
            refine tkS 11 rfl ?_
            refine tkS 12 rfl ?_
            refine tk 13 rfl ?_
            refine tk 14 rfl ?_
            refine wpAnyH_done (by kernel_rfl) (NoPanic.normal ?_) _
            have hkk := Lib.hid (kw'.out.trans hHeld.k)
            clear hHeld
            go_wp2
            go_ret
            exact ⟨rfl, hkk.out⟩
        · have e2 : (Nm.toList == F.toList) = false := by rw [hNl, Lib.toList_data]; simpa using hn2
          have hno' : Hid (∀ (i : Nat) (q : RowD), i < k + 1 → tableD[i]? = some q → ¬ (q.head = h ∧ q.name = F.data.toList)) := Lib.hid (fun i q hi hq => by
            by_cases e : i = k
            · subst e
              have : q = r := by rw [hr'.out] at hq; injection hq with hq; exact hq.symm
              subst this
              exact fun ⟨_, b⟩ => hn2 b
            · exact hno.out i q (by omega) hq)
          have hNl' := Lib.hid hNl; clear hh hn2 hNl
          go_wp2
          go_quiet (fail)
          go_wp2
          exact ⟨⟨k + 1, by omega, by go_num, hno', by obtain ⟨m, rfl⟩ := hm.out; exact Lib.hid ⟨m + nq, by rw [World.drewN_drewN]⟩⟩, by simp [intOf]; omega⟩
      · have e1 : (r.head == h) = false := by simpa using hh
        have hno' : Hid (∀ (i : Nat) (q : RowD), i < k + 1 → tableD[i]? = some q → ¬ (q.head = h ∧ q.name = F.data.toList)) := Lib.hid (fun i q hi hq => by
          by_cases e : i = k
          · subst e
            have : q = r := by rw [hr'.out] at hq; injection hq with hq; exact hq.symm
            subst this
            exact fun ⟨a, _⟩ => hh a
          · exact hno.out i q (by omega) hq)
        have hNl' := Lib.hid hNl; clear hh hNl
        go_wp2
        go_quiet (fail)
        go_wp2
        exact ⟨⟨k + 1, by omega, by go_num, hno', by obtain ⟨m, rfl⟩ := hm.out; exact Lib.hid ⟨m + nq, by rw [World.drewN_drewN]⟩⟩, by simp [intOf]; omega⟩
    · obtain rfl : k = 12 := by omega
      have hfn := find_none hno.out
      have hz1 : Hid (z = false) := Lib.hid (by
        rw [← hz.out]
        unfold lineB
        simp only [hfn])
      have kw' := Lib.hid kw
      clear hfn kw
      go_wp2
      go_ret
      exact ⟨by rw [hz1.out]; rfl, kw'.out⟩
end Go.Proofs.YtljfeefhlbgopaaDoor
