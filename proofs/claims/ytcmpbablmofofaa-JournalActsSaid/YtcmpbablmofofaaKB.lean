/- stays: the plain run. -/
import Derived.Test.YtcmpbablmofofaaKA
set_option linter.unusedVariables false
namespace Go.Proofs.Ytcmpbablmofofaa
open Go.RowKit

def oneB : List UInt8 := [111, 110, 101]
def sD1 (b bs : Nat) : Dk := (begR (fresh b bs 8)).2
def sD2 (b bs : Nat) : Dk := (apR (sD1 b bs) 1 0 [] oneB).2.1
theorem stay1 (b bs : Nat) : (begR (fresh b bs 8)).1 = 0 := by kernel_rfl
theorem stay2 (b bs : Nat) : genN (fresh b bs 8) = 1 := by kernel_rfl
theorem stay3 (b bs : Nat) : (apR (sD1 b bs) 1 0 [] oneB).1 = 0 := by kernel_rfl
theorem stay4 (b bs : Nat) : openE (sD2 b bs) = 0 := by kernel_rfl
theorem stay5 (b bs : Nat) : openG (sD2 b bs) = 1 := by kernel_rfl
theorem stay6 (b bs : Nat) : openH (sD2 b bs) = 0 := by kernel_rfl
theorem stay7 (b bs : Nat) : openL (sD2 b bs) = [oneB] := by kernel_rfl
theorem stay8 (b bs : Nat) : (apR (sD1 b bs) 1 0 [] oneB).2.2 = ([oneB], false) := by kernel_rfl
theorem stay9 : crc [49, 50, 51, 52, 53, 54, 55, 56, 57] = 3421780262 := by kernel_rfl
theorem stayB (b bs : Nat) : (sD1 b bs).b = b ∧ (sD1 b bs).n = 8 ∧ (sD2 b bs).b = b ∧ (sD2 b bs).n = 8 := ⟨by kernel_rfl, by kernel_rfl, by kernel_rfl, by kernel_rfl⟩
end Go.Proofs.Ytcmpbablmofofaa
