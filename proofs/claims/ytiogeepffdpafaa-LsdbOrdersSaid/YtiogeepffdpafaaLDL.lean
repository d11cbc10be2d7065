/- Slices of ints that came in; LsdbOrders' walk over them. -/
import Derived.Test.YtiogeepffdpafaaLDK
import Derived.ProofKit
import Derived.OpenShut
import Derived.Deep.Grids
namespace Go.Proofs.Ytiogeepffdpafaa
open Go.ChangeShapes Go.WideShapes Go.ChangeAt Go.RowKit Go.Deep
set_option maxRecDepth 100000 in
/-- a slice of ints that came in -/
theorem ints_came {H : Type} {enc : TypeId × Value → H} {W : World} {base : Nat} {v : Value} {d : DataW H} {ps : List MemPlace} (hval : Value.okWide Try.prog W .any base 115 v) (h : DataW.Trod enc Try.prog W 0 (fun _ => true) true 115 v d ps) :
    ∃ l, IntsAt W v l ∧ l.length ≤ 9223372036854775807 := by
  obtain ⟨a, len, cap, rfl⟩ := okWide_slice Try.underlying115 hval
  obtain ⟨fuel, hf⟩ := h
  rcases open_ints Try.underlying115 Try.underlying3 (by kernel_rfl) hf with ⟨hcs, _⟩ | ⟨x, l, c, zs, hcs, _, hl, hm, hz, _, hcell, _⟩
  · simp [Value.cells] at hcs
    obtain ⟨rfl, rfl, rfl⟩ := hcs
    exact ⟨[], ⟨none, 0, rfl, fun _ => rfl, Nat.le_refl _, fun h => by simp at h⟩, by simp⟩
  · simp [Value.cells] at hcs
    obtain ⟨rfl, rfl, rfl⟩ := hcs
    simp only [if_true] at hz
    have hn : (zs.take len).length = len := by simp; omega
    refine ⟨zs.take len, ⟨some x, cap, by rw [hn], (fun h => nomatch h), by rw [hn]; exact hl, fun h0 => ?_⟩, by rw [hn]; unfold maxLen at hm; omega⟩
    rw [hn] at h0
    obtain ⟨b, o, s⟩ := x
    have hs : s = none := by simpa [Addr.add] using World.cell?_spot (hcell 0 (by omega))
    subst hs
    refine ⟨b, o, rfl, fun j u hu => ?_⟩
    have hj : j < len := by have := (List.getElem?_eq_some_iff.1 hu).1; simp at this; omega
    have hc := hcell j (by omega)
    rw [Addr.add_mid] at hc
    rw [hc]
    have hjz : j < zs.length := by omega
    simp only [List.getElem?_map, List.getElem?_take, hj, if_true, List.getElem?_eq_getElem hjz, Option.map_some, Option.some.injEq] at hu
    rw [← hu]
    have e : zs.getD j 0 = zs[j] := by simp [List.getD, List.getElem?_eq_getElem hjz]
    rw [e]; rfl
theorem lLsdbOrders_walk2 (sl : Value) (xs : List Int) (key : Nat) (w : World) (h : Hid (IntsAt w sl xs)) (hl : xs.length ≤ 9223372036854775807) (hk : key < 4294967296) :
    Calls Try.prog 11 #[sl, .int .u32 key] w (fun e w' => e = .returned (.bool true) ∧ Keeps (fun _ => False) w w') := lLsdbOrders_walk sl xs key hk hl w h
end Go.Proofs.Ytiogeepffdpafaa
