/- The sixty-four lines, reckoned. -/
import Derived.Test.YtdjmhjgfjbcdkaaCFK
set_option linter.unusedVariables false
namespace Go.Proofs.Ytdjmhjgfjbcdkaa
open Go.RowKit

set_option maxRecDepth 100000
def small (ls : List LineD) : Bool := ls.all fun l => decide (l.name.length ≤ 100) && decide (l.leaf.length ≤ 100) && decide (l.value.length ≤ 100)
theorem small_lt {ls : List LineD} (h : small ls = true) : LinesLt ls 9223372036854775807 := fun l hl => by
  have := List.all_eq_true.1 h l hl
  simp only [Bool.and_eq_true, decide_eq_true_eq] at this
  omega
def bare (x : LineD) : LineD := ⟨x.head, x.name, x.leaf, []⟩
def fullOk (k : Nat) : Bool := lineB (lineI k [53]) && rightC (fullL k) && !thereB (lineI k [53]) (fullL k) && decide ((fullL k).length = k) && small (fullL k)
def lastOk (k : Nat) : Bool := lineB (lineI k [55]) && thereB (lineI k [55]) (fullL 64) && rightC (setC (lineI k [55]) (fullL 64)) && small (setC (lineI k [55]) (fullL 64)) && thereB (bare (lineI k [55])) (setC (lineI k [55]) (fullL 64)) &&
  (match (setC (lineI k [55]) (fullL 64))[posL (bare (lineI k [55])) (setC (lineI k [55]) (fullL 64))]? with | some q => decide (q.value = [55]) | none => false)
def overOk (k : Nat) : Bool := lineB (lineI (64 + k) [55]) && !thereB (lineI (64 + k) [55]) (fullL 64)
theorem full_ok : ((List.range 64).all fullOk) = true := by decide +kernel
theorem last_ok : ((List.range 64).all lastOk) = true := by decide +kernel
theorem over_ok : ((List.range 136).all overOk) = true := by decide +kernel
theorem end_ok : (rightC (fullL 64) && decide ((fullL 64).length = 64) && small (fullL 64) && decide ((namesFrom 1 none (fullL 64)).length = 64)) = true := by decide +kernel
end Go.Proofs.Ytdjmhjgfjbcdkaa
