/-
  No cell of these rows narrows 'for every input' (looked for: loops, veiled, ifaces, maps, wideKeys, modest, calm, conditions, laid).
  DERIVED. THE GIVEN ROWS OF THIS SEAT. 2 by the template 'for every input the law returns true; each argument reads behind the call as it read before'; 0 by the template 'total and deterministic' (their statements: YtialookpnoaogaaGreatTotals.lean).
  GIVEN WITH THE SEED: the statements are not yours to turn. If you find one false, say at which input.
  Laid BY PROGRAM, IN A SANDBOX (cutbox-rows.mjs): the forced cells as the released guide's own fill.sh prints them over the translation e860e872b3bf4213… (all of the seat's roots in one cut). By AI agents, Wed Nov 11 2026. No macro, syntax, notation, axiom, sorry.
-/
import Derived.Test.YtialookpnoaogaaGreatChecked
import GoSem.Claim
import GoSem.ClaimJoined
import GoSem.ClaimMapViews
import Derived.JoinedTies
import Derived.KernelRfl
namespace Go.Proofs.YtialookpnoaogaaGreat
/- THE CELL 'sum', in the pinned program and in every row, IS THE sha256 OF THE DUMP (.gsa) THAT YtialookpnoaogaaGreatProg.lean LOADS. Nothing in Lean hashes anything: it is a label: what it is worth is what the hold of that sum in a sandbox is worth. -/
noncomputable def Tryz.pinned : Pinned := { name := "ytialookpnoaogaagreat", sum := "e860e872b3bf4213a3a3366be94004641a04b7bf2e5e0364ce6f3350f1aae564", checked := Tryz.checked }
namespace Rows
def none {H : Type} : Left H := { results := [], args := [] }

/-- 'waystonelaw15.AdvAll': WHATEVER THE INPUT: true; the input reads as it did. -/
def advAllSpec : ChangeSpec := { name := "advAll", fn := fun _ => fun
  | [d1, d2] => { results := [.lit (.bool true)], args := [d1, d2] }
  | _ => none }
def advAllRow : OpenClaim := { program := "ytialookpnoaogaagreat", sum := "e860e872b3bf4213a3a3366be94004641a04b7bf2e5e0364ce6f3350f1aae564", func := "waystone/waystonelaw15.AdvAll", spec := "advAll", inPlace := ["internal/bytealg.IndexByteString", "internal/bytealg.IndexString"], unfollowed := true, recurses := true, named := ["internal/bytealg.MaxLen"], apart := false }
def AdvAllSaid : Prop := advAllRow.holds Tryz.pinned (OpenSpec.ofChange advAllSpec)

/-- ITS FALSE NEIGHBOUR: 'it returns false'. Refute it at one input. -/
def advAllWrong : ChangeSpec := { name := "advAll", fn := fun _ => fun
  | [d1, d2] => { results := [.lit (.bool false)], args := [d1, d2] }
  | _ => none }
def AdvAllWrongFalsely : Prop := advAllRow.holds Tryz.pinned (OpenSpec.ofChange advAllWrong)

/-- 'waystonelaw15.AdvSettings': WHATEVER THE INPUT: true; the input reads as it did. -/
def advSettingsSpec : ChangeSpec := { name := "advSettings", fn := fun _ => fun
  | [d1, d2] => { results := [.lit (.bool true)], args := [d1, d2] }
  | _ => none }
def advSettingsRow : OpenClaim := { program := "ytialookpnoaogaagreat", sum := "e860e872b3bf4213a3a3366be94004641a04b7bf2e5e0364ce6f3350f1aae564", func := "waystone/waystonelaw15.AdvSettings", spec := "advSettings", inPlace := ["internal/bytealg.IndexByteString", "internal/bytealg.IndexString"], unfollowed := true, recurses := true, named := ["internal/bytealg.MaxLen"], apart := false }
def AdvSettingsSaid : Prop := advSettingsRow.holds Tryz.pinned (OpenSpec.ofChange advSettingsSpec)

/-- ITS FALSE NEIGHBOUR: 'it returns false'. Refute it at one input. -/
def advSettingsWrong : ChangeSpec := { name := "advSettings", fn := fun _ => fun
  | [d1, d2] => { results := [.lit (.bool false)], args := [d1, d2] }
  | _ => none }
def AdvSettingsWrongFalsely : Prop := advSettingsRow.holds Tryz.pinned (OpenSpec.ofChange advSettingsWrong)

/- THE SECOND FORM. 'bulk': how many values and letters a reading holds, each counted each time it is reached (what is shared counts as often as it is met; a slice's spare places count too). A statement '..UptoSaid' is the law's where the arguments, and the package variables that the reading takes, are together of bulk at most 1048576: NARROWER than '..Said'. Prove '..Said' where nothing that the law and all that it calls make is longer than what came in: it says more and counts as full. Else prove '..UptoSaid'. A law counts once. -/
mutual
def uptoBulk {H : Type} : DataW H → Nat
  | .lit (.string bytes) => bytes.length + 1
  | .lit _ => 1
  | .nil => 1
  | .ptr d => uptoBulk d + 1
  | .slice elems spare => uptoBulkAll elems + uptoBulkAll spare + 1
  | .agg parts => uptoBulkAll parts + 1
  | .iface _ d => uptoBulk d + 1
  | .map entries => uptoBulkEntries entries + 1
  | .held _ => 1
def uptoBulkAll {H : Type} : List (DataW H) → Nat
  | [] => 0
  | d :: r => uptoBulk d + uptoBulkAll r
def uptoBulkEntries {H : Type} : List (Lit × DataW H) → Nat
  | [] => 0
  | x :: r => uptoBulkEntry x + uptoBulkEntries r
def uptoBulkEntry {H : Type} : Lit × DataW H → Nat
  | (.string bytes, d) => bytes.length + uptoBulk d + 1
  | (_, d) => uptoBulk d + 1
 end
def uptoSmall : (H : Type) → List (DataW H) → Bool := fun _ ds => decide (uptoBulkAll ds ≤ 1048576)
def OpenSpec.upto (s : _root_.Go.ChangeSpec) : _root_.Go.OpenSpec := { _root_.Go.OpenSpec.ofChange s with cond := some uptoSmall }

/-- 'waystonelaw15.AdvAll', WHERE WHAT IT READS IS OF BULK AT MOST 1048576: true; the input reads as it did. -/
def advAllUptoRow : OpenClaim := { program := "ytialookpnoaogaagreat", sum := "e860e872b3bf4213a3a3366be94004641a04b7bf2e5e0364ce6f3350f1aae564", func := "waystone/waystonelaw15.AdvAll", spec := "advAll", inPlace := ["internal/bytealg.IndexByteString", "internal/bytealg.IndexString"], unfollowed := true, recurses := true, named := ["internal/bytealg.MaxLen"], apart := false, narrowed := true }
def AdvAllUptoSaid : Prop := advAllUptoRow.holds Tryz.pinned (OpenSpec.upto advAllSpec)

/-- 'waystonelaw15.AdvSettings', WHERE WHAT IT READS IS OF BULK AT MOST 1048576: true; the input reads as it did. -/
def advSettingsUptoRow : OpenClaim := { program := "ytialookpnoaogaagreat", sum := "e860e872b3bf4213a3a3366be94004641a04b7bf2e5e0364ce6f3350f1aae564", func := "waystone/waystonelaw15.AdvSettings", spec := "advSettings", inPlace := ["internal/bytealg.IndexByteString", "internal/bytealg.IndexString"], unfollowed := true, recurses := true, named := ["internal/bytealg.MaxLen"], apart := false, narrowed := true }
def AdvSettingsUptoSaid : Prop := advSettingsUptoRow.holds Tryz.pinned (OpenSpec.upto advSettingsSpec)

end Rows
end Go.Proofs.YtialookpnoaogaaGreat
