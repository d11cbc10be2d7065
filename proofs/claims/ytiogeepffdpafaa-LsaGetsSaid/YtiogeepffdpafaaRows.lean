/-
  No cell of these rows narrows 'for every input' (looked for: loops, veiled, ifaces, maps, wideKeys, modest, calm, conditions, laid).
  DERIVED. THE GIVEN ROWS OF THIS SEAT. 10 by the template 'for every input the law returns true; each argument reads behind the call as it read before'; 0 by the template 'total and deterministic' (their statements: YtiogeepffdpafaaTotals.lean).
  GIVEN WITH THE SEED: the statements are not yours to turn. If you find one false, say at which input.
  Laid BY PROGRAM, IN A SANDBOX (cutbox-rows.mjs): the forced cells as the released guide's own fill.sh prints them over the translation 0b98ac4dfdeb6152… (all of the seat's roots in one cut). By AI agents, Wed Nov 11 2026. No macro, syntax, notation, axiom, sorry.
-/
import Derived.Test.YtiogeepffdpafaaChecked
import GoSem.Claim
import GoSem.ClaimJoined
import GoSem.ClaimMapViews
import Derived.JoinedTies
import Derived.KernelRfl
namespace Go.Proofs.Ytiogeepffdpafaa
/- THE CELL 'sum', in the pinned program and in every row, IS THE sha256 OF THE DUMP (.gsa) THAT YtiogeepffdpafaaProg.lean LOADS. Nothing in Lean hashes anything: it is a label: what it is worth is what the hold of that sum in a sandbox is worth. -/
noncomputable def Try.pinned : Pinned := { name := "ytiogeepffdpafaa", sum := "0b98ac4dfdeb615221a9935efa977ec0a8d12f6753e19b5cb3bc64e8bf29b0eb", checked := Try.checked }
namespace Rows
def none {H : Type} : Left H := { results := [], args := [] }

/-- 'waystonelaw10.LsaPuts': WHATEVER THE INPUT: true; the input reads as it did. -/
def lsaPutsSpec : ChangeSpec := { name := "lsaPuts", fn := fun _ => fun
  | [d] => { results := [.lit (.bool true)], args := [d] }
  | _ => none }
def lsaPutsRow : OpenClaim := { program := "ytiogeepffdpafaa", sum := "0b98ac4dfdeb615221a9935efa977ec0a8d12f6753e19b5cb3bc64e8bf29b0eb", func := "waystone/waystonelaw10.LsaPuts", spec := "lsaPuts", unfollowed := true, recurses := true, plainKeys := false, apart := false }
def LsaPutsSaid : Prop := lsaPutsRow.holds Try.pinned (OpenSpec.ofChange lsaPutsSpec)

/-- ITS FALSE NEIGHBOUR: 'it returns false'. Refute it at one input. -/
def lsaPutsWrong : ChangeSpec := { name := "lsaPuts", fn := fun _ => fun
  | [d] => { results := [.lit (.bool false)], args := [d] }
  | _ => none }
def LsaPutsWrongFalsely : Prop := lsaPutsRow.holds Try.pinned (OpenSpec.ofChange lsaPutsWrong)

/-- 'waystonelaw10.LsaGets': WHATEVER THE INPUT: true; the input reads as it did. -/
def lsaGetsSpec : ChangeSpec := { name := "lsaGets", fn := fun _ => fun
  | [d1, d2, d3] => { results := [.lit (.bool true)], args := [d1, d2, d3] }
  | _ => none }
def lsaGetsRow : OpenClaim := { program := "ytiogeepffdpafaa", sum := "0b98ac4dfdeb615221a9935efa977ec0a8d12f6753e19b5cb3bc64e8bf29b0eb", func := "waystone/waystonelaw10.LsaGets", spec := "lsaGets", unfollowed := true, recurses := true, plainKeys := false, apart := false }
def LsaGetsSaid : Prop := lsaGetsRow.holds Try.pinned (OpenSpec.ofChange lsaGetsSpec)

/-- ITS FALSE NEIGHBOUR: 'it returns false'. Refute it at one input. -/
def lsaGetsWrong : ChangeSpec := { name := "lsaGets", fn := fun _ => fun
  | [d1, d2, d3] => { results := [.lit (.bool false)], args := [d1, d2, d3] }
  | _ => none }
def LsaGetsWrongFalsely : Prop := lsaGetsRow.holds Try.pinned (OpenSpec.ofChange lsaGetsWrong)

/-- 'waystonelaw10.LsaAlike': WHATEVER THE INPUT: true; the input reads as it did. -/
def lsaAlikeSpec : ChangeSpec := { name := "lsaAlike", fn := fun _ => fun
  | [d1, d2, d3] => { results := [.lit (.bool true)], args := [d1, d2, d3] }
  | _ => none }
def lsaAlikeRow : OpenClaim := { program := "ytiogeepffdpafaa", sum := "0b98ac4dfdeb615221a9935efa977ec0a8d12f6753e19b5cb3bc64e8bf29b0eb", func := "waystone/waystonelaw10.LsaAlike", spec := "lsaAlike", unfollowed := true, recurses := true, plainKeys := false, apart := false }
def LsaAlikeSaid : Prop := lsaAlikeRow.holds Try.pinned (OpenSpec.ofChange lsaAlikeSpec)

/-- ITS FALSE NEIGHBOUR: 'it returns false'. Refute it at one input. -/
def lsaAlikeWrong : ChangeSpec := { name := "lsaAlike", fn := fun _ => fun
  | [d1, d2, d3] => { results := [.lit (.bool false)], args := [d1, d2, d3] }
  | _ => none }
def LsaAlikeWrongFalsely : Prop := lsaAlikeRow.holds Try.pinned (OpenSpec.ofChange lsaAlikeWrong)

/-- 'waystonelaw10.LsaAges': WHATEVER THE INPUT: true; the input reads as it did. -/
def lsaAgesSpec : ChangeSpec := { name := "lsaAges", fn := fun _ => fun
  | [d1, d2, d3] => { results := [.lit (.bool true)], args := [d1, d2, d3] }
  | _ => none }
def lsaAgesRow : OpenClaim := { program := "ytiogeepffdpafaa", sum := "0b98ac4dfdeb615221a9935efa977ec0a8d12f6753e19b5cb3bc64e8bf29b0eb", func := "waystone/waystonelaw10.LsaAges", spec := "lsaAges", unfollowed := true, recurses := true, plainKeys := false, apart := false }
def LsaAgesSaid : Prop := lsaAgesRow.holds Try.pinned (OpenSpec.ofChange lsaAgesSpec)

/-- ITS FALSE NEIGHBOUR: 'it returns false'. Refute it at one input. -/
def lsaAgesWrong : ChangeSpec := { name := "lsaAges", fn := fun _ => fun
  | [d1, d2, d3] => { results := [.lit (.bool false)], args := [d1, d2, d3] }
  | _ => none }
def LsaAgesWrongFalsely : Prop := lsaAgesRow.holds Try.pinned (OpenSpec.ofChange lsaAgesWrong)

/-- 'waystonelaw11.PacketPuts': WHATEVER THE INPUT: true; the input reads as it did. -/
def packetPutsSpec : ChangeSpec := { name := "packetPuts", fn := fun _ => fun
  | [d1, d2] => { results := [.lit (.bool true)], args := [d1, d2] }
  | _ => none }
def packetPutsRow : OpenClaim := { program := "ytiogeepffdpafaa", sum := "0b98ac4dfdeb615221a9935efa977ec0a8d12f6753e19b5cb3bc64e8bf29b0eb", func := "waystone/waystonelaw11.PacketPuts", spec := "packetPuts", inPlace := ["internal/bytealg.IndexByteString"], unfollowed := true, recurses := true, plainKeys := false, apart := false }
def PacketPutsSaid : Prop := packetPutsRow.holds Try.pinned (OpenSpec.ofChange packetPutsSpec)

/-- ITS FALSE NEIGHBOUR: 'it returns false'. Refute it at one input. -/
def packetPutsWrong : ChangeSpec := { name := "packetPuts", fn := fun _ => fun
  | [d1, d2] => { results := [.lit (.bool false)], args := [d1, d2] }
  | _ => none }
def PacketPutsWrongFalsely : Prop := packetPutsRow.holds Try.pinned (OpenSpec.ofChange packetPutsWrong)

/-- 'waystonelaw11.PacketGets': WHATEVER THE INPUT: true; the input reads as it did. -/
def packetGetsSpec : ChangeSpec := { name := "packetGets", fn := fun _ => fun
  | [d1, d2, d3] => { results := [.lit (.bool true)], args := [d1, d2, d3] }
  | _ => none }
def packetGetsRow : OpenClaim := { program := "ytiogeepffdpafaa", sum := "0b98ac4dfdeb615221a9935efa977ec0a8d12f6753e19b5cb3bc64e8bf29b0eb", func := "waystone/waystonelaw11.PacketGets", spec := "packetGets", inPlace := ["internal/bytealg.IndexByteString"], unfollowed := true, recurses := true, plainKeys := false, apart := false }
def PacketGetsSaid : Prop := packetGetsRow.holds Try.pinned (OpenSpec.ofChange packetGetsSpec)

/-- ITS FALSE NEIGHBOUR: 'it returns false'. Refute it at one input. -/
def packetGetsWrong : ChangeSpec := { name := "packetGets", fn := fun _ => fun
  | [d1, d2, d3] => { results := [.lit (.bool false)], args := [d1, d2, d3] }
  | _ => none }
def PacketGetsWrongFalsely : Prop := packetGetsRow.holds Try.pinned (OpenSpec.ofChange packetGetsWrong)

/-- 'waystonelaw11.PacketRaw': WHATEVER THE INPUT: true; the input reads as it did. -/
def packetRawSpec : ChangeSpec := { name := "packetRaw", fn := fun _ => fun
  | [d1, d2] => { results := [.lit (.bool true)], args := [d1, d2] }
  | _ => none }
def packetRawRow : OpenClaim := { program := "ytiogeepffdpafaa", sum := "0b98ac4dfdeb615221a9935efa977ec0a8d12f6753e19b5cb3bc64e8bf29b0eb", func := "waystone/waystonelaw11.PacketRaw", spec := "packetRaw", inPlace := ["internal/bytealg.IndexByteString"], unfollowed := true, recurses := true, plainKeys := false, apart := false }
def PacketRawSaid : Prop := packetRawRow.holds Try.pinned (OpenSpec.ofChange packetRawSpec)

/-- ITS FALSE NEIGHBOUR: 'it returns false'. Refute it at one input. -/
def packetRawWrong : ChangeSpec := { name := "packetRaw", fn := fun _ => fun
  | [d1, d2] => { results := [.lit (.bool false)], args := [d1, d2] }
  | _ => none }
def PacketRawWrongFalsely : Prop := packetRawRow.holds Try.pinned (OpenSpec.ofChange packetRawWrong)

/-- 'waystonelaw12.LsdbActs': WHATEVER THE INPUT: true; the input reads as it did. -/
def lsdbActsSpec : ChangeSpec := { name := "lsdbActs", fn := fun _ => fun
  | [d] => { results := [.lit (.bool true)], args := [d] }
  | _ => none }
def lsdbActsRow : OpenClaim := { program := "ytiogeepffdpafaa", sum := "0b98ac4dfdeb615221a9935efa977ec0a8d12f6753e19b5cb3bc64e8bf29b0eb", func := "waystone/waystonelaw12.LsdbActs", spec := "lsdbActs", unfollowed := true, recurses := true, plainKeys := false, apart := false }
def LsdbActsSaid : Prop := lsdbActsRow.holds Try.pinned (OpenSpec.ofChange lsdbActsSpec)

/-- ITS FALSE NEIGHBOUR: 'it returns false'. Refute it at one input. -/
def lsdbActsWrong : ChangeSpec := { name := "lsdbActs", fn := fun _ => fun
  | [d] => { results := [.lit (.bool false)], args := [d] }
  | _ => none }
def LsdbActsWrongFalsely : Prop := lsdbActsRow.holds Try.pinned (OpenSpec.ofChange lsdbActsWrong)

/-- 'waystonelaw12.LsdbOrders': WHATEVER THE INPUT: true; the input reads as it did. -/
def lsdbOrdersSpec : ChangeSpec := { name := "lsdbOrders", fn := fun _ => fun
  | [d1, d2] => { results := [.lit (.bool true)], args := [d1, d2] }
  | _ => none }
def lsdbOrdersRow : OpenClaim := { program := "ytiogeepffdpafaa", sum := "0b98ac4dfdeb615221a9935efa977ec0a8d12f6753e19b5cb3bc64e8bf29b0eb", func := "waystone/waystonelaw12.LsdbOrders", spec := "lsdbOrders", unfollowed := true, recurses := true, plainKeys := false, apart := false }
def LsdbOrdersSaid : Prop := lsdbOrdersRow.holds Try.pinned (OpenSpec.ofChange lsdbOrdersSpec)

/-- ITS FALSE NEIGHBOUR: 'it returns false'. Refute it at one input. -/
def lsdbOrdersWrong : ChangeSpec := { name := "lsdbOrders", fn := fun _ => fun
  | [d1, d2] => { results := [.lit (.bool false)], args := [d1, d2] }
  | _ => none }
def LsdbOrdersWrongFalsely : Prop := lsdbOrdersRow.holds Try.pinned (OpenSpec.ofChange lsdbOrdersWrong)

/-- 'waystonelaw12.LsdbLess': WHATEVER THE INPUT: true; the input reads as it did. -/
def lsdbLessSpec : ChangeSpec := { name := "lsdbLess", fn := fun _ => fun
  | [d1, d2] => { results := [.lit (.bool true)], args := [d1, d2] }
  | _ => none }
def lsdbLessRow : OpenClaim := { program := "ytiogeepffdpafaa", sum := "0b98ac4dfdeb615221a9935efa977ec0a8d12f6753e19b5cb3bc64e8bf29b0eb", func := "waystone/waystonelaw12.LsdbLess", spec := "lsdbLess", unfollowed := true, recurses := true, plainKeys := false, apart := false }
def LsdbLessSaid : Prop := lsdbLessRow.holds Try.pinned (OpenSpec.ofChange lsdbLessSpec)

/-- ITS FALSE NEIGHBOUR: 'it returns false'. Refute it at one input. -/
def lsdbLessWrong : ChangeSpec := { name := "lsdbLess", fn := fun _ => fun
  | [d1, d2] => { results := [.lit (.bool false)], args := [d1, d2] }
  | _ => none }
def LsdbLessWrongFalsely : Prop := lsdbLessRow.holds Try.pinned (OpenSpec.ofChange lsdbLessWrong)

/- THE SECOND FORM. 'bulk': how many values and letters a reading holds, each counted each time it is reached (what is shared counts as often as it is met; a slice's spare places count too). A statement '..UptoSaid' is the law's where the arguments, and the package variables that the reading takes, are together of bulk at most 1048576: NARROWER than '..Said'. Prove '..Said' where nothing that the law and all that it calls make is longer than what came in: it says more and counts as full. Else prove '..UptoSaid'. A law counts once. -/
mutual
def uptoBulk {H : Type} : DataW H → Nat
  | .lit (.string bytes) => bytes.length + 1
  | .lit _ => 1
  | .nil => 1
  | .ptr d => uptoBulk d + 1
  | .slice elems spare => uptoBulkAll elems + uptoBulkAll spare + 1
  | .agg parts => uptoBulkAll parts + 1
  | .iface _ d => uptoBulk d + 1
  | .map entries => uptoBulkEntries entries + 1
  | .held _ => 1
def uptoBulkAll {H : Type} : List (DataW H) → Nat
  | [] => 0
  | d :: r => uptoBulk d + uptoBulkAll r
def uptoBulkEntries {H : Type} : List (Lit × DataW H) → Nat
  | [] => 0
  | x :: r => uptoBulkEntry x + uptoBulkEntries r
def uptoBulkEntry {H : Type} : Lit × DataW H → Nat
  | (.string bytes, d) => bytes.length + uptoBulk d + 1
  | (_, d) => uptoBulk d + 1
 end
def uptoSmall : (H : Type) → List (DataW H) → Bool := fun _ ds => decide (uptoBulkAll ds ≤ 1048576)
def OpenSpec.upto (s : _root_.Go.ChangeSpec) : _root_.Go.OpenSpec := { _root_.Go.OpenSpec.ofChange s with cond := some uptoSmall }

/-- 'waystonelaw10.LsaPuts', WHERE WHAT IT READS IS OF BULK AT MOST 1048576: true; the input reads as it did. -/
def lsaPutsUptoRow : OpenClaim := { program := "ytiogeepffdpafaa", sum := "0b98ac4dfdeb615221a9935efa977ec0a8d12f6753e19b5cb3bc64e8bf29b0eb", func := "waystone/waystonelaw10.LsaPuts", spec := "lsaPuts", unfollowed := true, recurses := true, plainKeys := false, apart := false, narrowed := true }
def LsaPutsUptoSaid : Prop := lsaPutsUptoRow.holds Try.pinned (OpenSpec.upto lsaPutsSpec)

/-- 'waystonelaw10.LsaGets', WHERE WHAT IT READS IS OF BULK AT MOST 1048576: true; the input reads as it did. -/
def lsaGetsUptoRow : OpenClaim := { program := "ytiogeepffdpafaa", sum := "0b98ac4dfdeb615221a9935efa977ec0a8d12f6753e19b5cb3bc64e8bf29b0eb", func := "waystone/waystonelaw10.LsaGets", spec := "lsaGets", unfollowed := true, recurses := true, plainKeys := false, apart := false, narrowed := true }
def LsaGetsUptoSaid : Prop := lsaGetsUptoRow.holds Try.pinned (OpenSpec.upto lsaGetsSpec)

/-- 'waystonelaw10.LsaAlike', WHERE WHAT IT READS IS OF BULK AT MOST 1048576: true; the input reads as it did. -/
def lsaAlikeUptoRow : OpenClaim := { program := "ytiogeepffdpafaa", sum := "0b98ac4dfdeb615221a9935efa977ec0a8d12f6753e19b5cb3bc64e8bf29b0eb", func := "waystone/waystonelaw10.LsaAlike", spec := "lsaAlike", unfollowed := true, recurses := true, plainKeys := false, apart := false, narrowed := true }
def LsaAlikeUptoSaid : Prop := lsaAlikeUptoRow.holds Try.pinned (OpenSpec.upto lsaAlikeSpec)

/-- 'waystonelaw10.LsaAges', WHERE WHAT IT READS IS OF BULK AT MOST 1048576: true; the input reads as it did. -/
def lsaAgesUptoRow : OpenClaim := { program := "ytiogeepffdpafaa", sum := "0b98ac4dfdeb615221a9935efa977ec0a8d12f6753e19b5cb3bc64e8bf29b0eb", func := "waystone/waystonelaw10.LsaAges", spec := "lsaAges", unfollowed := true, recurses := true, plainKeys := false, apart := false, narrowed := true }
def LsaAgesUptoSaid : Prop := lsaAgesUptoRow.holds Try.pinned (OpenSpec.upto lsaAgesSpec)

/-- 'waystonelaw11.PacketPuts', WHERE WHAT IT READS IS OF BULK AT MOST 1048576: true; the input reads as it did. -/
def packetPutsUptoRow : OpenClaim := { program := "ytiogeepffdpafaa", sum := "0b98ac4dfdeb615221a9935efa977ec0a8d12f6753e19b5cb3bc64e8bf29b0eb", func := "waystone/waystonelaw11.PacketPuts", spec := "packetPuts", inPlace := ["internal/bytealg.IndexByteString"], unfollowed := true, recurses := true, plainKeys := false, apart := false, narrowed := true }
def PacketPutsUptoSaid : Prop := packetPutsUptoRow.holds Try.pinned (OpenSpec.upto packetPutsSpec)

/-- 'waystonelaw11.PacketGets', WHERE WHAT IT READS IS OF BULK AT MOST 1048576: true; the input reads as it did. -/
def packetGetsUptoRow : OpenClaim := { program := "ytiogeepffdpafaa", sum := "0b98ac4dfdeb615221a9935efa977ec0a8d12f6753e19b5cb3bc64e8bf29b0eb", func := "waystone/waystonelaw11.PacketGets", spec := "packetGets", inPlace := ["internal/bytealg.IndexByteString"], unfollowed := true, recurses := true, plainKeys := false, apart := false, narrowed := true }
def PacketGetsUptoSaid : Prop := packetGetsUptoRow.holds Try.pinned (OpenSpec.upto packetGetsSpec)

/-- 'waystonelaw11.PacketRaw', WHERE WHAT IT READS IS OF BULK AT MOST 1048576: true; the input reads as it did. -/
def packetRawUptoRow : OpenClaim := { program := "ytiogeepffdpafaa", sum := "0b98ac4dfdeb615221a9935efa977ec0a8d12f6753e19b5cb3bc64e8bf29b0eb", func := "waystone/waystonelaw11.PacketRaw", spec := "packetRaw", inPlace := ["internal/bytealg.IndexByteString"], unfollowed := true, recurses := true, plainKeys := false, apart := false, narrowed := true }
def PacketRawUptoSaid : Prop := packetRawUptoRow.holds Try.pinned (OpenSpec.upto packetRawSpec)

/-- 'waystonelaw12.LsdbActs', WHERE WHAT IT READS IS OF BULK AT MOST 1048576: true; the input reads as it did. -/
def lsdbActsUptoRow : OpenClaim := { program := "ytiogeepffdpafaa", sum := "0b98ac4dfdeb615221a9935efa977ec0a8d12f6753e19b5cb3bc64e8bf29b0eb", func := "waystone/waystonelaw12.LsdbActs", spec := "lsdbActs", unfollowed := true, recurses := true, plainKeys := false, apart := false, narrowed := true }
def LsdbActsUptoSaid : Prop := lsdbActsUptoRow.holds Try.pinned (OpenSpec.upto lsdbActsSpec)

/-- 'waystonelaw12.LsdbOrders', WHERE WHAT IT READS IS OF BULK AT MOST 1048576: true; the input reads as it did. -/
def lsdbOrdersUptoRow : OpenClaim := { program := "ytiogeepffdpafaa", sum := "0b98ac4dfdeb615221a9935efa977ec0a8d12f6753e19b5cb3bc64e8bf29b0eb", func := "waystone/waystonelaw12.LsdbOrders", spec := "lsdbOrders", unfollowed := true, recurses := true, plainKeys := false, apart := false, narrowed := true }
def LsdbOrdersUptoSaid : Prop := lsdbOrdersUptoRow.holds Try.pinned (OpenSpec.upto lsdbOrdersSpec)

/-- 'waystonelaw12.LsdbLess', WHERE WHAT IT READS IS OF BULK AT MOST 1048576: true; the input reads as it did. -/
def lsdbLessUptoRow : OpenClaim := { program := "ytiogeepffdpafaa", sum := "0b98ac4dfdeb615221a9935efa977ec0a8d12f6753e19b5cb3bc64e8bf29b0eb", func := "waystone/waystonelaw12.LsdbLess", spec := "lsdbLess", unfollowed := true, recurses := true, plainKeys := false, apart := false, narrowed := true }
def LsdbLessUptoSaid : Prop := lsdbLessUptoRow.holds Try.pinned (OpenSpec.upto lsdbLessSpec)

end Rows
end Go.Proofs.Ytiogeepffdpafaa
