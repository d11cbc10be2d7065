/- SchemaValues, walked. -/
import Derived.Test.YtdgacnkfljcbpaaDoorSDD
namespace Go.Proofs.YtdgacnkfljcbpaaDoor
open Go.RowKit

def lawEnd (w : World) (e : Ending) (w' : World) : Prop := e = .returned (.bool true) ∧ Below w.heap.size w w'
theorem lawEnd.mk {w w' : World} (h : Keeps (fun _ => False) w w') : lawEnd w (.returned (.bool true)) w' := ⟨rfl, h.below (Nat.le_refl _) (fun _ h => h.elim)⟩
theorem digs_len9 {n : Nat} (h : n < 1000000000) : (digs n).length ≤ 9 := digs_len 9 n (by omega) (by omega)
theorem dotted_len (n : Nat) : (dotted n).length ≤ 15 := dotPre_len n 4

theorem rDigits_I (N : Nat) (v : Int) (D : ByteArray) (w : World) (hN : N < 1000000000) (hD : Hid (D = ⟨(digs N).toArray⟩)) (hv : Hid (v = (N : Nat))) :
    Calls Tryd.prog 24 #[.int .i64 v] w (NewRes (.string D) w) := by rw [hv.out]; exact rDigits_D N D w hN hD
set_option maxRecDepth 100000 in
set_option maxHeartbeats 2000000 in
theorem schemaValues_law (n : Nat) (k : Int) (w : World) (hn : n < 4294967296) (hk1 : -9223372036854775808 ≤ k) (hk2 : k ≤ 9223372036854775807) (ht : Hid (TabOk w)) :
    Calls Tryd.prog 5 #[.int .u32 (n : Nat), .int .i64 k] w (lawEnd w) := by
  obtain ⟨a, ha⟩ : ∃ a, a = n % 1000000000 := ⟨_, rfl⟩
  have a9 : a < 1000000000 := by omega
  have fa : (n : Int) % 1000000000 = (a : Int) := by omega
  obtain ⟨m, m2, fm⟩ : ∃ m : Nat, m < 32 ∧ (IntKind.u64.wrap k).tmod 32 = (m : Int) := by
    have h0 : 0 ≤ IntKind.u64.wrap k := by
      show 0 ≤ k % 18446744073709551616
      omega
    rw [Int.tmod_eq_emod_of_nonneg h0]
    exact ⟨(IntKind.u64.wrap k % 32).toNat, by omega, by omega⟩
  obtain ⟨l, hl⟩ : ∃ l : Nat, l = m + 1 := ⟨_, rfl⟩
  have l1 : 1 ≤ l := by omega
  have l2 : l ≤ 32 := by omega
  have hlv : Hid ((1 : Int) + (m : Int) = (l : Nat)) := Lib.hid (by omega)
  obtain ⟨A, hA, lA⟩ := ba_ex (digs a) 9 (digs_len9 a9)
  obtain ⟨D, hD, lD⟩ := ba_ex (dotted n) 15 (dotted_len n)
  obtain ⟨L, hL, lL⟩ := ba_ex (digs l) 9 (digs_len9 (by omega))
  have d1 : Hid (decL A.data.toList = some a) := Lib.hid (by rw [hA.out]; exact decL_digs_eq a9)
  have d2 : Hid (decL ((⟨#[48]⟩ : ByteArray) ++ A).data.toList = none) := Lib.hid (by rw [hA.out]; simpa using decL_nought a)
  have d3 : Hid (decL ((⟨#[43]⟩ : ByteArray) ++ A).data.toList = none) := Lib.hid (by rw [hA.out]; simpa using decL_plus a)
  have d4 : Hid (netL (D ++ ⟨#[47]⟩ ++ L).data.toList = some (n, l)) := Lib.hid (by rw [hD.out, hL.out]; simpa using netL_dotted hn l1 l2)
  have d5 : Hid (netL (D ++ ⟨#[47]⟩).data.toList = none) := Lib.hid (by rw [hD.out]; simpa using netL_slash n)
  have d6 : Hid (addrL (D ++ ⟨#[46]⟩).data.toList = none) := Lib.hid (by rw [hD.out]; simpa using addrL_dot n)
  have hD2 : Hid (strv (dotted n) = .string D) := Lib.hid (by rw [hD.out]; rfl)
  have ha' := Lib.hid ha; have hl' := Lib.hid hl; clear ha hl
  go_enter Tryd.func5, Tryd.ntmps5
  go_wp2_with fail
  refine (rDigits_D a A _ a9 hA).mono ?_
  rintro e w1 ⟨rfl, k1⟩
  have k1' := Lib.hid k1; clear k1
  go_wp2_with fail
  refine (dec_some A a _ d1).mono ?_
  rintro e w' ⟨rfl, rfl⟩
  go_wp2_with fail
  refine (dec_none _ _ d2).mono ?_
  rintro e w' ⟨rfl, rfl⟩
  go_wp2_with fail
  refine (dec_none _ _ d3).mono ?_
  rintro e w' ⟨rfl, rfl⟩
  go_wp2_with fail
  have ht1 := Lib.hid (ht.out.keep k1'.out)
  refine (dotted_D n D _ hn ht1 hD2).mono ?_
  rintro e w2 ⟨rfl, k2⟩
  have k2' := Lib.hid k2; clear k2
  go_wp2_with fail
  refine (rDigits_I l _ L _ (by omega) hL hlv).mono ?_
  rintro e w3 ⟨rfl, k3⟩
  have k3' := Lib.hid k3; clear k3
  go_wp2_with fail
  refine (net_some _ n l _ (by rw [ByteArray.size_append, ByteArray.size_append]; show D.size + 1 + L.size ≤ _; omega) d4).mono ?_
  rintro e w4 ⟨rfl, m4, rfl⟩
  go_wp2_with fail
  refine (net_none _ _ (by rw [ByteArray.size_append]; show D.size + 1 ≤ _; omega) d5).mono ?_
  rintro e w5 ⟨rfl, m5, rfl⟩
  go_wp2_with fail
  refine (addr_none _ _ (by rw [ByteArray.size_append]; show D.size + 1 ≤ _; omega) d6).mono ?_
  rintro e w6 ⟨rfl, m6, rfl⟩
  have kk := Lib.hid (((k1'.out.trans k2'.out).trans k3'.out).drewN (m4 + m5 + m6))
  have ht2 := Lib.hid (ht.out.keep kk.out)
  go_wp2_with fail
  refine (reads4_any _ ht2).mono ?_
  rintro e w7 ⟨rfl, k7⟩
  have k7' := Lib.hid k7; clear k7
  have hlb : ((l : Int) == 1 + (m : Int)) = true := by rw [beq_iff_eq]; exact hlv.out.symm
  go_wp2_with fail
  go_ret
  exact lawEnd.mk (kk.out.trans k7'.out)
end Go.Proofs.YtdgacnkfljcbpaaDoor
