/-
  No cell of these rows narrows 'for every input' (looked for: loops, veiled, ifaces, maps, wideKeys, modest, calm, conditions, laid).
  DERIVED. THE GIVEN ROWS OF THIS SEAT. 9 by the template 'for every input the law returns true; each argument reads behind the call as it read before'; 0 by the template 'total and deterministic' (their statements: YtjggfobnlgppjaaTotals.lean).
  GIVEN WITH THE SEED: the statements are not yours to turn. If you find one false, say at which input.
  Laid BY PROGRAM, IN A SANDBOX (cutbox-rows.mjs): the forced cells as the released guide's own fill.sh prints them over the translation 6b210349209f6463… (all of the seat's roots in one cut). By AI agents, Wed Nov 11 2026. No macro, syntax, notation, axiom, sorry.
-/
import Derived.Test.YtjggfobnlgppjaaChecked
import GoSem.Claim
import GoSem.ClaimJoined
import GoSem.ClaimMapViews
import Derived.JoinedTies
import Derived.KernelRfl
namespace Go.Proofs.Ytjggfobnlgppjaa
/- THE CELL 'sum', in the pinned program and in every row, IS THE sha256 OF THE DUMP (.gsa) THAT YtjggfobnlgppjaaProg.lean LOADS. Nothing in Lean hashes anything: it is a label: what it is worth is what the hold of that sum in a sandbox is worth. -/
noncomputable def Try.pinned : Pinned := { name := "ytjggfobnlgppjaa", sum := "6b210349209f646369742cc228e2cf3e7738f0ef8024f63bb6abd4db39bd6494", checked := Try.checked }
namespace Rows
def none {H : Type} : Left H := { results := [], args := [] }

/-- 'waystonelaw09.SumsInternet': WHATEVER THE INPUT: true; the input reads as it did. -/
def sumsInternetSpec : ChangeSpec := { name := "sumsInternet", fn := fun _ => fun
  | [d] => { results := [.lit (.bool true)], args := [d] }
  | _ => none }
def sumsInternetRow : OpenClaim := { program := "ytjggfobnlgppjaa", sum := "6b210349209f646369742cc228e2cf3e7738f0ef8024f63bb6abd4db39bd6494", func := "waystone/waystonelaw09.SumsInternet", spec := "sumsInternet", apart := false }
def SumsInternetSaid : Prop := sumsInternetRow.holds Try.pinned (OpenSpec.ofChange sumsInternetSpec)

/-- ITS FALSE NEIGHBOUR: 'it returns false'. Refute it at one input. -/
def sumsInternetWrong : ChangeSpec := { name := "sumsInternet", fn := fun _ => fun
  | [d] => { results := [.lit (.bool false)], args := [d] }
  | _ => none }
def SumsInternetWrongFalsely : Prop := sumsInternetRow.holds Try.pinned (OpenSpec.ofChange sumsInternetWrong)

/-- 'waystonelaw09.SumsFletcher': WHATEVER THE INPUT: true; the input reads as it did. -/
def sumsFletcherSpec : ChangeSpec := { name := "sumsFletcher", fn := fun _ => fun
  | [d1, d2, d3] => { results := [.lit (.bool true)], args := [d1, d2, d3] }
  | _ => none }
def sumsFletcherRow : OpenClaim := { program := "ytjggfobnlgppjaa", sum := "6b210349209f646369742cc228e2cf3e7738f0ef8024f63bb6abd4db39bd6494", func := "waystone/waystonelaw09.SumsFletcher", spec := "sumsFletcher", apart := false }
def SumsFletcherSaid : Prop := sumsFletcherRow.holds Try.pinned (OpenSpec.ofChange sumsFletcherSpec)

/-- ITS FALSE NEIGHBOUR: 'it returns false'. Refute it at one input. -/
def sumsFletcherWrong : ChangeSpec := { name := "sumsFletcher", fn := fun _ => fun
  | [d1, d2, d3] => { results := [.lit (.bool false)], args := [d1, d2, d3] }
  | _ => none }
def SumsFletcherWrongFalsely : Prop := sumsFletcherRow.holds Try.pinned (OpenSpec.ofChange sumsFletcherWrong)

/-- 'waystonelaw10.LsaPuts': WHATEVER THE INPUT: true; the input reads as it did. -/
def lsaPutsSpec : ChangeSpec := { name := "lsaPuts", fn := fun _ => fun
  | [d] => { results := [.lit (.bool true)], args := [d] }
  | _ => none }
def lsaPutsRow : OpenClaim := { program := "ytjggfobnlgppjaa", sum := "6b210349209f646369742cc228e2cf3e7738f0ef8024f63bb6abd4db39bd6494", func := "waystone/waystonelaw10.LsaPuts", spec := "lsaPuts", unfollowed := true, recurses := true, apart := false }
def LsaPutsSaid : Prop := lsaPutsRow.holds Try.pinned (OpenSpec.ofChange lsaPutsSpec)

/-- ITS FALSE NEIGHBOUR: 'it returns false'. Refute it at one input. -/
def lsaPutsWrong : ChangeSpec := { name := "lsaPuts", fn := fun _ => fun
  | [d] => { results := [.lit (.bool false)], args := [d] }
  | _ => none }
def LsaPutsWrongFalsely : Prop := lsaPutsRow.holds Try.pinned (OpenSpec.ofChange lsaPutsWrong)

/-- 'waystonelaw10.LsaGets': WHATEVER THE INPUT: true; the input reads as it did. -/
def lsaGetsSpec : ChangeSpec := { name := "lsaGets", fn := fun _ => fun
  | [d1, d2, d3] => { results := [.lit (.bool true)], args := [d1, d2, d3] }
  | _ => none }
def lsaGetsRow : OpenClaim := { program := "ytjggfobnlgppjaa", sum := "6b210349209f646369742cc228e2cf3e7738f0ef8024f63bb6abd4db39bd6494", func := "waystone/waystonelaw10.LsaGets", spec := "lsaGets", unfollowed := true, recurses := true, apart := false }
def LsaGetsSaid : Prop := lsaGetsRow.holds Try.pinned (OpenSpec.ofChange lsaGetsSpec)

/-- ITS FALSE NEIGHBOUR: 'it returns false'. Refute it at one input. -/
def lsaGetsWrong : ChangeSpec := { name := "lsaGets", fn := fun _ => fun
  | [d1, d2, d3] => { results := [.lit (.bool false)], args := [d1, d2, d3] }
  | _ => none }
def LsaGetsWrongFalsely : Prop := lsaGetsRow.holds Try.pinned (OpenSpec.ofChange lsaGetsWrong)

/-- 'waystonelaw10.LsaAlike': WHATEVER THE INPUT: true; the input reads as it did. -/
def lsaAlikeSpec : ChangeSpec := { name := "lsaAlike", fn := fun _ => fun
  | [d1, d2, d3] => { results := [.lit (.bool true)], args := [d1, d2, d3] }
  | _ => none }
def lsaAlikeRow : OpenClaim := { program := "ytjggfobnlgppjaa", sum := "6b210349209f646369742cc228e2cf3e7738f0ef8024f63bb6abd4db39bd6494", func := "waystone/waystonelaw10.LsaAlike", spec := "lsaAlike", unfollowed := true, recurses := true, apart := false }
def LsaAlikeSaid : Prop := lsaAlikeRow.holds Try.pinned (OpenSpec.ofChange lsaAlikeSpec)

/-- ITS FALSE NEIGHBOUR: 'it returns false'. Refute it at one input. -/
def lsaAlikeWrong : ChangeSpec := { name := "lsaAlike", fn := fun _ => fun
  | [d1, d2, d3] => { results := [.lit (.bool false)], args := [d1, d2, d3] }
  | _ => none }
def LsaAlikeWrongFalsely : Prop := lsaAlikeRow.holds Try.pinned (OpenSpec.ofChange lsaAlikeWrong)

/-- 'waystonelaw10.LsaAges': WHATEVER THE INPUT: true; the input reads as it did. -/
def lsaAgesSpec : ChangeSpec := { name := "lsaAges", fn := fun _ => fun
  | [d1, d2, d3] => { results := [.lit (.bool true)], args := [d1, d2, d3] }
  | _ => none }
def lsaAgesRow : OpenClaim := { program := "ytjggfobnlgppjaa", sum := "6b210349209f646369742cc228e2cf3e7738f0ef8024f63bb6abd4db39bd6494", func := "waystone/waystonelaw10.LsaAges", spec := "lsaAges", unfollowed := true, recurses := true, apart := false }
def LsaAgesSaid : Prop := lsaAgesRow.holds Try.pinned (OpenSpec.ofChange lsaAgesSpec)

/-- ITS FALSE NEIGHBOUR: 'it returns false'. Refute it at one input. -/
def lsaAgesWrong : ChangeSpec := { name := "lsaAges", fn := fun _ => fun
  | [d1, d2, d3] => { results := [.lit (.bool false)], args := [d1, d2, d3] }
  | _ => none }
def LsaAgesWrongFalsely : Prop := lsaAgesRow.holds Try.pinned (OpenSpec.ofChange lsaAgesWrong)

/-- 'waystonelaw11.PacketPuts': WHATEVER THE INPUT: true; the input reads as it did. -/
def packetPutsSpec : ChangeSpec := { name := "packetPuts", fn := fun _ => fun
  | [d1, d2] => { results := [.lit (.bool true)], args := [d1, d2] }
  | _ => none }
def packetPutsRow : OpenClaim := { program := "ytjggfobnlgppjaa", sum := "6b210349209f646369742cc228e2cf3e7738f0ef8024f63bb6abd4db39bd6494", func := "waystone/waystonelaw11.PacketPuts", spec := "packetPuts", inPlace := ["internal/bytealg.IndexByteString"], unfollowed := true, recurses := true, apart := false }
def PacketPutsSaid : Prop := packetPutsRow.holds Try.pinned (OpenSpec.ofChange packetPutsSpec)

/-- ITS FALSE NEIGHBOUR: 'it returns false'. Refute it at one input. -/
def packetPutsWrong : ChangeSpec := { name := "packetPuts", fn := fun _ => fun
  | [d1, d2] => { results := [.lit (.bool false)], args := [d1, d2] }
  | _ => none }
def PacketPutsWrongFalsely : Prop := packetPutsRow.holds Try.pinned (OpenSpec.ofChange packetPutsWrong)

/-- 'waystonelaw11.PacketGets': WHATEVER THE INPUT: true; the input reads as it did. -/
def packetGetsSpec : ChangeSpec := { name := "packetGets", fn := fun _ => fun
  | [d1, d2, d3] => { results := [.lit (.bool true)], args := [d1, d2, d3] }
  | _ => none }
def packetGetsRow : OpenClaim := { program := "ytjggfobnlgppjaa", sum := "6b210349209f646369742cc228e2cf3e7738f0ef8024f63bb6abd4db39bd6494", func := "waystone/waystonelaw11.PacketGets", spec := "packetGets", inPlace := ["internal/bytealg.IndexByteString"], unfollowed := true, recurses := true, apart := false }
def PacketGetsSaid : Prop := packetGetsRow.holds Try.pinned (OpenSpec.ofChange packetGetsSpec)

/-- ITS FALSE NEIGHBOUR: 'it returns false'. Refute it at one input. -/
def packetGetsWrong : ChangeSpec := { name := "packetGets", fn := fun _ => fun
  | [d1, d2, d3] => { results := [.lit (.bool false)], args := [d1, d2, d3] }
  | _ => none }
def PacketGetsWrongFalsely : Prop := packetGetsRow.holds Try.pinned (OpenSpec.ofChange packetGetsWrong)

/-- 'waystonelaw11.PacketRaw': WHATEVER THE INPUT: true; the input reads as it did. -/
def packetRawSpec : ChangeSpec := { name := "packetRaw", fn := fun _ => fun
  | [d1, d2] => { results := [.lit (.bool true)], args := [d1, d2] }
  | _ => none }
def packetRawRow : OpenClaim := { program := "ytjggfobnlgppjaa", sum := "6b210349209f646369742cc228e2cf3e7738f0ef8024f63bb6abd4db39bd6494", func := "waystone/waystonelaw11.PacketRaw", spec := "packetRaw", inPlace := ["internal/bytealg.IndexByteString"], unfollowed := true, recurses := true, apart := false }
def PacketRawSaid : Prop := packetRawRow.holds Try.pinned (OpenSpec.ofChange packetRawSpec)

/-- ITS FALSE NEIGHBOUR: 'it returns false'. Refute it at one input. -/
def packetRawWrong : ChangeSpec := { name := "packetRaw", fn := fun _ => fun
  | [d1, d2] => { results := [.lit (.bool false)], args := [d1, d2] }
  | _ => none }
def PacketRawWrongFalsely : Prop := packetRawRow.holds Try.pinned (OpenSpec.ofChange packetRawWrong)

/- THE SECOND FORM. 'bulk': how many values and letters a reading holds, each counted each time it is reached (what is shared counts as often as it is met; a slice's spare places count too). A statement '..UptoSaid' is the law's where the arguments, and the package variables that the reading takes, are together of bulk at most 1048576: NARROWER than '..Said'. Prove '..Said' where nothing that the law and all that it calls make is longer than what came in: it says more and counts as full. Else prove '..UptoSaid'. A law counts once. -/
mutual
def uptoBulk {H : Type} : DataW H → Nat
  | .lit (.string bytes) => bytes.length + 1
  | .lit _ => 1
  | .nil => 1
  | .ptr d => uptoBulk d + 1
  | .slice elems spare => uptoBulkAll elems + uptoBulkAll spare + 1
  | .agg parts => uptoBulkAll parts + 1
  | .iface _ d => uptoBulk d + 1
  | .map entries => uptoBulkEntries entries + 1
  | .held _ => 1
def uptoBulkAll {H : Type} : List (DataW H) → Nat
  | [] => 0
  | d :: r => uptoBulk d + uptoBulkAll r
def uptoBulkEntries {H : Type} : List (Lit × DataW H) → Nat
  | [] => 0
  | x :: r => uptoBulkEntry x + uptoBulkEntries r
def uptoBulkEntry {H : Type} : Lit × DataW H → Nat
  | (.string bytes, d) => bytes.length + uptoBulk d + 1
  | (_, d) => uptoBulk d + 1
 end
def uptoSmall : (H : Type) → List (DataW H) → Bool := fun _ ds => decide (uptoBulkAll ds ≤ 1048576)
def OpenSpec.upto (s : _root_.Go.ChangeSpec) : _root_.Go.OpenSpec := { _root_.Go.OpenSpec.ofChange s with cond := some uptoSmall }

/-- 'waystonelaw09.SumsInternet', WHERE WHAT IT READS IS OF BULK AT MOST 1048576: true; the input reads as it did. -/
def sumsInternetUptoRow : OpenClaim := { program := "ytjggfobnlgppjaa", sum := "6b210349209f646369742cc228e2cf3e7738f0ef8024f63bb6abd4db39bd6494", func := "waystone/waystonelaw09.SumsInternet", spec := "sumsInternet", apart := false, narrowed := true }
def SumsInternetUptoSaid : Prop := sumsInternetUptoRow.holds Try.pinned (OpenSpec.upto sumsInternetSpec)

/-- 'waystonelaw09.SumsFletcher', WHERE WHAT IT READS IS OF BULK AT MOST 1048576: true; the input reads as it did. -/
def sumsFletcherUptoRow : OpenClaim := { program := "ytjggfobnlgppjaa", sum := "6b210349209f646369742cc228e2cf3e7738f0ef8024f63bb6abd4db39bd6494", func := "waystone/waystonelaw09.SumsFletcher", spec := "sumsFletcher", apart := false, narrowed := true }
def SumsFletcherUptoSaid : Prop := sumsFletcherUptoRow.holds Try.pinned (OpenSpec.upto sumsFletcherSpec)

/-- 'waystonelaw10.LsaPuts', WHERE WHAT IT READS IS OF BULK AT MOST 1048576: true; the input reads as it did. -/
def lsaPutsUptoRow : OpenClaim := { program := "ytjggfobnlgppjaa", sum := "6b210349209f646369742cc228e2cf3e7738f0ef8024f63bb6abd4db39bd6494", func := "waystone/waystonelaw10.LsaPuts", spec := "lsaPuts", unfollowed := true, recurses := true, apart := false, narrowed := true }
def LsaPutsUptoSaid : Prop := lsaPutsUptoRow.holds Try.pinned (OpenSpec.upto lsaPutsSpec)

/-- 'waystonelaw10.LsaGets', WHERE WHAT IT READS IS OF BULK AT MOST 1048576: true; the input reads as it did. -/
def lsaGetsUptoRow : OpenClaim := { program := "ytjggfobnlgppjaa", sum := "6b210349209f646369742cc228e2cf3e7738f0ef8024f63bb6abd4db39bd6494", func := "waystone/waystonelaw10.LsaGets", spec := "lsaGets", unfollowed := true, recurses := true, apart := false, narrowed := true }
def LsaGetsUptoSaid : Prop := lsaGetsUptoRow.holds Try.pinned (OpenSpec.upto lsaGetsSpec)

/-- 'waystonelaw10.LsaAlike', WHERE WHAT IT READS IS OF BULK AT MOST 1048576: true; the input reads as it did. -/
def lsaAlikeUptoRow : OpenClaim := { program := "ytjggfobnlgppjaa", sum := "6b210349209f646369742cc228e2cf3e7738f0ef8024f63bb6abd4db39bd6494", func := "waystone/waystonelaw10.LsaAlike", spec := "lsaAlike", unfollowed := true, recurses := true, apart := false, narrowed := true }
def LsaAlikeUptoSaid : Prop := lsaAlikeUptoRow.holds Try.pinned (OpenSpec.upto lsaAlikeSpec)

/-- 'waystonelaw10.LsaAges', WHERE WHAT IT READS IS OF BULK AT MOST 1048576: true; the input reads as it did. -/
def lsaAgesUptoRow : OpenClaim := { program := "ytjggfobnlgppjaa", sum := "6b210349209f646369742cc228e2cf3e7738f0ef8024f63bb6abd4db39bd6494", func := "waystone/waystonelaw10.LsaAges", spec := "lsaAges", unfollowed := true, recurses := true, apart := false, narrowed := true }
def LsaAgesUptoSaid : Prop := lsaAgesUptoRow.holds Try.pinned (OpenSpec.upto lsaAgesSpec)

/-- 'waystonelaw11.PacketPuts', WHERE WHAT IT READS IS OF BULK AT MOST 1048576: true; the input reads as it did. -/
def packetPutsUptoRow : OpenClaim := { program := "ytjggfobnlgppjaa", sum := "6b210349209f646369742cc228e2cf3e7738f0ef8024f63bb6abd4db39bd6494", func := "waystone/waystonelaw11.PacketPuts", spec := "packetPuts", inPlace := ["internal/bytealg.IndexByteString"], unfollowed := true, recurses := true, apart := false, narrowed := true }
def PacketPutsUptoSaid : Prop := packetPutsUptoRow.holds Try.pinned (OpenSpec.upto packetPutsSpec)

/-- 'waystonelaw11.PacketGets', WHERE WHAT IT READS IS OF BULK AT MOST 1048576: true; the input reads as it did. -/
def packetGetsUptoRow : OpenClaim := { program := "ytjggfobnlgppjaa", sum := "6b210349209f646369742cc228e2cf3e7738f0ef8024f63bb6abd4db39bd6494", func := "waystone/waystonelaw11.PacketGets", spec := "packetGets", inPlace := ["internal/bytealg.IndexByteString"], unfollowed := true, recurses := true, apart := false, narrowed := true }
def PacketGetsUptoSaid : Prop := packetGetsUptoRow.holds Try.pinned (OpenSpec.upto packetGetsSpec)

/-- 'waystonelaw11.PacketRaw', WHERE WHAT IT READS IS OF BULK AT MOST 1048576: true; the input reads as it did. -/
def packetRawUptoRow : OpenClaim := { program := "ytjggfobnlgppjaa", sum := "6b210349209f646369742cc228e2cf3e7738f0ef8024f63bb6abd4db39bd6494", func := "waystone/waystonelaw11.PacketRaw", spec := "packetRaw", inPlace := ["internal/bytealg.IndexByteString"], unfollowed := true, recurses := true, apart := false, narrowed := true }
def PacketRawUptoSaid : Prop := packetRawUptoRow.holds Try.pinned (OpenSpec.upto packetRawSpec)

end Rows
end Go.Proofs.Ytjggfobnlgppjaa
