/- A line set, plain; the sixty-four lines of ConfFull. -/
import Derived.Test.YtdjmhjgfjbcdkaaCFF
import Derived.Test.YtdjmhjgfjbcdkaaSDA
set_option linter.unusedVariables false
set_option linter.unusedSimpArgs false
namespace Go.Proofs.Ytdjmhjgfjbcdkaa
open Go.RowKit

/-- lines with one more, or another one in its place -/
def setC (x : LineD) (ls : List LineD) : List LineD := ls.take (posL x ls) ++ x :: ls.drop (posL x ls + if thereB x ls = true then 1 else 0)
theorem there_lt {x : LineD} {ls : List LineD} (h : thereB x ls = true) : posL x ls < ls.length := by
  unfold thereB at h
  cases hq : ls[posL x ls]? with
  | none => rw [hq] at h; cases h
  | some q => exact (List.getElem?_eq_some_iff.1 hq).1
theorem setC_len (x : LineD) (ls : List LineD) : (setC x ls).length = ls.length + if thereB x ls = true then 0 else 1 := by
  have h := posL_le x ls
  unfold setC
  rw [List.length_append, List.length_take, List.length_cons, List.length_drop]
  by_cases ht : thereB x ls = true
  · have := there_lt ht
    rw [if_pos ht, if_pos ht]; omega
  · rw [if_neg ht, if_neg ht]; omega
/-- a line's value, or the default -/
def valueC (ls : List LineD) (h : Int) (n l : List UInt8) : List UInt8 :=
  if rightC ls = true then
    (if thereB ⟨h, n, l, []⟩ ls = true then (match ls[posL ⟨h, n, l, []⟩ ls]? with | some q => q.value | none => []) else (match findD h l with | some r => r.df | none => []))
  else []
/-- the names of a head -/
def namesFrom (h : Int) : Option LineD → List LineD → List (List UInt8)
  | _, [] => []
  | p, q :: ls => (if q.head = h ∧ (match p with | none => true | some p => !(decide (p.head = q.head) && decide (p.name = q.name))) = true then [q.name] else []) ++ namesFrom h (some q) ls
def namesC (ls : List LineD) (h : Int) : List (List UInt8) := if h = 0 ∨ rightC ls = false then [] else namesFrom h none ls

def digs3 (n : Nat) : List UInt8 := if n < 10 then [UInt8.ofNat (48 + n)] else if n < 100 then [UInt8.ofNat (48 + n / 10), UInt8.ofNat (48 + n % 10)] else [UInt8.ofNat (48 + n / 100), UInt8.ofNat (48 + n / 10 % 10), UInt8.ofNat (48 + n % 10)]
theorem digs_3 {n : Nat} (h : n < 1000) : digs n = digs3 n := by
  unfold digs3
  by_cases h1 : n < 10
  · rw [if_pos h1, digs_lt h1]
  · rw [if_neg h1, digs_ge h1]
    by_cases h2 : n < 100
    · rw [if_pos h2, digs_lt (by omega)]; rfl
    · rw [if_neg h2, digs_ge (by omega), digs_lt (by omega)]
      have : n / 10 / 10 = n / 100 := by omega
      rw [this]; rfl
def lineI (k : Nat) (v : List UInt8) : LineD := ⟨1, [48, 46, 48, 46, 48, 46] ++ digs3 k, [99, 111, 115, 116], v⟩
def fullL : Nat → List LineD
  | 0 => []
  | k + 1 => setC (lineI k [53]) (fullL k)
end Go.Proofs.Ytdjmhjgfjbcdkaa
