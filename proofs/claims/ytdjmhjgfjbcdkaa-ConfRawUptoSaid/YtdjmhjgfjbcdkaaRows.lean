/-
  No cell of these rows narrows 'for every input' (looked for: loops, veiled, ifaces, maps, wideKeys, modest, calm, conditions, laid).
  DERIVED. THE GIVEN ROWS OF THIS SEAT. 5 by the template 'for every input the law returns true; each argument reads behind the call as it read before'; 0 by the template 'total and deterministic' (their statements: YtdjmhjgfjbcdkaaTotals.lean).
  GIVEN WITH THE SEED: the statements are not yours to turn. If you find one false, say at which input.
  Laid BY PROGRAM, IN A SANDBOX (cutbox-rows.mjs): the forced cells as the released guide's own fill.sh prints them over the translation b994147d821973a3… (all of the seat's roots in one cut). By AI agents, Wed Nov 11 2026. No macro, syntax, notation, axiom, sorry.
-/
import Derived.Test.YtdjmhjgfjbcdkaaChecked
import GoSem.Claim
import GoSem.ClaimJoined
import GoSem.ClaimMapViews
import Derived.JoinedTies
import Derived.KernelRfl
namespace Go.Proofs.Ytdjmhjgfjbcdkaa
/- THE CELL 'sum', in the pinned program and in every row, IS THE sha256 OF THE DUMP (.gsa) THAT YtdjmhjgfjbcdkaaProg.lean LOADS. Nothing in Lean hashes anything: it is a label: what it is worth is what the hold of that sum in a sandbox is worth. -/
noncomputable def Try.pinned : Pinned := { name := "ytdjmhjgfjbcdkaa", sum := "b994147d821973a3bb2eb5c5dfc7c9b534d8067dc3ebb0178d9695867e2166e3", checked := Try.checked }
namespace Rows
def none {H : Type} : Left H := { results := [], args := [] }

/-- 'waystonelaw05.ConfSets': WHATEVER THE INPUT: true; the input reads as it did. -/
def confSetsSpec : ChangeSpec := { name := "confSets", fn := fun _ => fun
  | [d1, d2] => { results := [.lit (.bool true)], args := [d1, d2] }
  | _ => none }
def confSetsRow : OpenClaim := { program := "ytdjmhjgfjbcdkaa", sum := "b994147d821973a3bb2eb5c5dfc7c9b534d8067dc3ebb0178d9695867e2166e3", func := "waystone/waystonelaw05.ConfSets", spec := "confSets", inPlace := ["internal/bytealg.IndexByteString", "internal/bytealg.IndexString", "internal/abi.NoEscape"], named := ["internal/bytealg.MaxLen"], apart := false }
def ConfSetsSaid : Prop := confSetsRow.holds Try.pinned (OpenSpec.ofChange confSetsSpec)

/-- ITS FALSE NEIGHBOUR: 'it returns false'. Refute it at one input. -/
def confSetsWrong : ChangeSpec := { name := "confSets", fn := fun _ => fun
  | [d1, d2] => { results := [.lit (.bool false)], args := [d1, d2] }
  | _ => none }
def ConfSetsWrongFalsely : Prop := confSetsRow.holds Try.pinned (OpenSpec.ofChange confSetsWrong)

/-- 'waystonelaw05.ConfRaw': WHATEVER THE INPUT: true; the input reads as it did. -/
def confRawSpec : ChangeSpec := { name := "confRaw", fn := fun _ => fun
  | [d1, d2] => { results := [.lit (.bool true)], args := [d1, d2] }
  | _ => none }
def confRawRow : OpenClaim := { program := "ytdjmhjgfjbcdkaa", sum := "b994147d821973a3bb2eb5c5dfc7c9b534d8067dc3ebb0178d9695867e2166e3", func := "waystone/waystonelaw05.ConfRaw", spec := "confRaw", inPlace := ["internal/bytealg.IndexByteString", "internal/bytealg.IndexString", "internal/abi.NoEscape"], named := ["internal/bytealg.MaxLen"], apart := false }
def ConfRawSaid : Prop := confRawRow.holds Try.pinned (OpenSpec.ofChange confRawSpec)

/-- ITS FALSE NEIGHBOUR: 'it returns false'. Refute it at one input. -/
def confRawWrong : ChangeSpec := { name := "confRaw", fn := fun _ => fun
  | [d1, d2] => { results := [.lit (.bool false)], args := [d1, d2] }
  | _ => none }
def ConfRawWrongFalsely : Prop := confRawRow.holds Try.pinned (OpenSpec.ofChange confRawWrong)

/-- 'waystonelaw05.ConfGets': WHATEVER THE INPUT: true; the input reads as it did. -/
def confGetsSpec : ChangeSpec := { name := "confGets", fn := fun _ => fun
  | [d1, d2] => { results := [.lit (.bool true)], args := [d1, d2] }
  | _ => none }
def confGetsRow : OpenClaim := { program := "ytdjmhjgfjbcdkaa", sum := "b994147d821973a3bb2eb5c5dfc7c9b534d8067dc3ebb0178d9695867e2166e3", func := "waystone/waystonelaw05.ConfGets", spec := "confGets", inPlace := ["internal/bytealg.IndexByteString", "internal/bytealg.IndexString", "internal/abi.NoEscape"], named := ["internal/bytealg.MaxLen"], apart := false }
def ConfGetsSaid : Prop := confGetsRow.holds Try.pinned (OpenSpec.ofChange confGetsSpec)

/-- ITS FALSE NEIGHBOUR: 'it returns false'. Refute it at one input. -/
def confGetsWrong : ChangeSpec := { name := "confGets", fn := fun _ => fun
  | [d1, d2] => { results := [.lit (.bool false)], args := [d1, d2] }
  | _ => none }
def ConfGetsWrongFalsely : Prop := confGetsRow.holds Try.pinned (OpenSpec.ofChange confGetsWrong)

/-- 'waystonelaw05.ConfSteps': WHATEVER THE INPUT: true; the input reads as it did. -/
def confStepsSpec : ChangeSpec := { name := "confSteps", fn := fun _ => fun
  | [d1, d2] => { results := [.lit (.bool true)], args := [d1, d2] }
  | _ => none }
def confStepsRow : OpenClaim := { program := "ytdjmhjgfjbcdkaa", sum := "b994147d821973a3bb2eb5c5dfc7c9b534d8067dc3ebb0178d9695867e2166e3", func := "waystone/waystonelaw05.ConfSteps", spec := "confSteps", inPlace := ["internal/bytealg.IndexByteString", "internal/bytealg.IndexString", "internal/abi.NoEscape"], named := ["internal/bytealg.MaxLen"], apart := false }
def ConfStepsSaid : Prop := confStepsRow.holds Try.pinned (OpenSpec.ofChange confStepsSpec)

/-- ITS FALSE NEIGHBOUR: 'it returns false'. Refute it at one input. -/
def confStepsWrong : ChangeSpec := { name := "confSteps", fn := fun _ => fun
  | [d1, d2] => { results := [.lit (.bool false)], args := [d1, d2] }
  | _ => none }
def ConfStepsWrongFalsely : Prop := confStepsRow.holds Try.pinned (OpenSpec.ofChange confStepsWrong)

/-- 'waystonelaw05.ConfFull': WHATEVER THE INPUT: true; the input reads as it did. -/
def confFullSpec : ChangeSpec := { name := "confFull", fn := fun _ => fun
  | [d] => { results := [.lit (.bool true)], args := [d] }
  | _ => none }
def confFullRow : OpenClaim := { program := "ytdjmhjgfjbcdkaa", sum := "b994147d821973a3bb2eb5c5dfc7c9b534d8067dc3ebb0178d9695867e2166e3", func := "waystone/waystonelaw05.ConfFull", spec := "confFull", inPlace := ["internal/bytealg.IndexByteString", "internal/bytealg.IndexString", "internal/abi.NoEscape"], named := ["internal/bytealg.MaxLen"], apart := false }
def ConfFullSaid : Prop := confFullRow.holds Try.pinned (OpenSpec.ofChange confFullSpec)

/-- ITS FALSE NEIGHBOUR: 'it returns false'. Refute it at one input. -/
def confFullWrong : ChangeSpec := { name := "confFull", fn := fun _ => fun
  | [d] => { results := [.lit (.bool false)], args := [d] }
  | _ => none }
def ConfFullWrongFalsely : Prop := confFullRow.holds Try.pinned (OpenSpec.ofChange confFullWrong)

/- THE SECOND FORM. 'bulk': how many values and letters a reading holds, each counted each time it is reached (what is shared counts as often as it is met; a slice's spare places count too). A statement '..UptoSaid' is the law's where the arguments, and the package variables that the reading takes, are together of bulk at most 1048576: NARROWER than '..Said'. Prove '..Said' where nothing that the law and all that it calls make is longer than what came in: it says more and counts as full. Else prove '..UptoSaid'. A law counts once. -/
mutual
def uptoBulk {H : Type} : DataW H → Nat
  | .lit (.string bytes) => bytes.length + 1
  | .lit _ => 1
  | .nil => 1
  | .ptr d => uptoBulk d + 1
  | .slice elems spare => uptoBulkAll elems + uptoBulkAll spare + 1
  | .agg parts => uptoBulkAll parts + 1
  | .iface _ d => uptoBulk d + 1
  | .map entries => uptoBulkEntries entries + 1
  | .held _ => 1
def uptoBulkAll {H : Type} : List (DataW H) → Nat
  | [] => 0
  | d :: r => uptoBulk d + uptoBulkAll r
def uptoBulkEntries {H : Type} : List (Lit × DataW H) → Nat
  | [] => 0
  | x :: r => uptoBulkEntry x + uptoBulkEntries r
def uptoBulkEntry {H : Type} : Lit × DataW H → Nat
  | (.string bytes, d) => bytes.length + uptoBulk d + 1
  | (_, d) => uptoBulk d + 1
 end
def uptoSmall : (H : Type) → List (DataW H) → Bool := fun _ ds => decide (uptoBulkAll ds ≤ 1048576)
def OpenSpec.upto (s : _root_.Go.ChangeSpec) : _root_.Go.OpenSpec := { _root_.Go.OpenSpec.ofChange s with cond := some uptoSmall }

/-- 'waystonelaw05.ConfSets', WHERE WHAT IT READS IS OF BULK AT MOST 1048576: true; the input reads as it did. -/
def confSetsUptoRow : OpenClaim := { program := "ytdjmhjgfjbcdkaa", sum := "b994147d821973a3bb2eb5c5dfc7c9b534d8067dc3ebb0178d9695867e2166e3", func := "waystone/waystonelaw05.ConfSets", spec := "confSets", inPlace := ["internal/bytealg.IndexByteString", "internal/bytealg.IndexString", "internal/abi.NoEscape"], named := ["internal/bytealg.MaxLen"], apart := false, narrowed := true }
def ConfSetsUptoSaid : Prop := confSetsUptoRow.holds Try.pinned (OpenSpec.upto confSetsSpec)

/-- 'waystonelaw05.ConfRaw', WHERE WHAT IT READS IS OF BULK AT MOST 1048576: true; the input reads as it did. -/
def confRawUptoRow : OpenClaim := { program := "ytdjmhjgfjbcdkaa", sum := "b994147d821973a3bb2eb5c5dfc7c9b534d8067dc3ebb0178d9695867e2166e3", func := "waystone/waystonelaw05.ConfRaw", spec := "confRaw", inPlace := ["internal/bytealg.IndexByteString", "internal/bytealg.IndexString", "internal/abi.NoEscape"], named := ["internal/bytealg.MaxLen"], apart := false, narrowed := true }
def ConfRawUptoSaid : Prop := confRawUptoRow.holds Try.pinned (OpenSpec.upto confRawSpec)

/-- 'waystonelaw05.ConfGets', WHERE WHAT IT READS IS OF BULK AT MOST 1048576: true; the input reads as it did. -/
def confGetsUptoRow : OpenClaim := { program := "ytdjmhjgfjbcdkaa", sum := "b994147d821973a3bb2eb5c5dfc7c9b534d8067dc3ebb0178d9695867e2166e3", func := "waystone/waystonelaw05.ConfGets", spec := "confGets", inPlace := ["internal/bytealg.IndexByteString", "internal/bytealg.IndexString", "internal/abi.NoEscape"], named := ["internal/bytealg.MaxLen"], apart := false, narrowed := true }
def ConfGetsUptoSaid : Prop := confGetsUptoRow.holds Try.pinned (OpenSpec.upto confGetsSpec)

/-- 'waystonelaw05.ConfSteps', WHERE WHAT IT READS IS OF BULK AT MOST 1048576: true; the input reads as it did. -/
def confStepsUptoRow : OpenClaim := { program := "ytdjmhjgfjbcdkaa", sum := "b994147d821973a3bb2eb5c5dfc7c9b534d8067dc3ebb0178d9695867e2166e3", func := "waystone/waystonelaw05.ConfSteps", spec := "confSteps", inPlace := ["internal/bytealg.IndexByteString", "internal/bytealg.IndexString", "internal/abi.NoEscape"], named := ["internal/bytealg.MaxLen"], apart := false, narrowed := true }
def ConfStepsUptoSaid : Prop := confStepsUptoRow.holds Try.pinned (OpenSpec.upto confStepsSpec)

/-- 'waystonelaw05.ConfFull', WHERE WHAT IT READS IS OF BULK AT MOST 1048576: true; the input reads as it did. -/
def confFullUptoRow : OpenClaim := { program := "ytdjmhjgfjbcdkaa", sum := "b994147d821973a3bb2eb5c5dfc7c9b534d8067dc3ebb0178d9695867e2166e3", func := "waystone/waystonelaw05.ConfFull", spec := "confFull", inPlace := ["internal/bytealg.IndexByteString", "internal/bytealg.IndexString", "internal/abi.NoEscape"], named := ["internal/bytealg.MaxLen"], apart := false, narrowed := true }
def ConfFullUptoSaid : Prop := confFullUptoRow.holds Try.pinned (OpenSpec.upto confFullSpec)

end Rows
end Go.Proofs.Ytdjmhjgfjbcdkaa
