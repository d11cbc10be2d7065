/- Less, the code's and the document's, walked. -/
import Derived.Test.YtdjmhjgfjbcdkaaSCO
namespace Go.Proofs.Ytdjmhjgfjbcdkaa
open Go.RowKit

/-- a line, plain -/
structure LineD where
  head : Int
  name : List UInt8
  leaf : List UInt8
  value : List UInt8
def lessB (a b : LineD) : Bool :=
  if a.head = b.head then (if a.name = b.name then Op.bytesLess a.leaf b.leaf else Op.bytesLess a.name b.name) else decide (a.head < b.head)

set_option maxRecDepth 100000 in
theorem less_any (h1 h2 : Int) (n1 l1 v1 n2 l2 v2 : ByteArray) (r : Bool) (w : World) (hr : Hid (lessB ⟨h1, n1.data.toList, l1.data.toList, v1.data.toList⟩ ⟨h2, n2.data.toList, l2.data.toList, v2.data.toList⟩ = r)) :
    Calls Try.prog 26 #[.agg #[.int .i64 h1, .string n1, .string l1, .string v1], .agg #[.int .i64 h2, .string n2, .string l2, .string v2]] w (NewRes (.bool r) w) := by
  have hq := hr.out
  unfold lessB at hq
  simp only at hq
  by_cases hh : h1 = h2
  · have e1 : (h1 != h2) = false := by simpa using hh
    rw [if_pos hh] at hq
    by_cases hn : n1.data.toList = n2.data.toList
    · have e2 : (n1.toList == n2.toList) = true := by rw [Lib.toList_data, Lib.toList_data, hn]; simp
      rw [if_pos hn, ← Lib.toList_data l1, ← Lib.toList_data l2] at hq
      have hq' := Lib.hid hq; clear hq hr hh hn
      go_enter Try.func26, Try.ntmps26
      go_wp2
      go_ret
      exact ⟨by rw [← hq'.out]; rfl, ((Keeps.refl _ _).alloc _).alloc _⟩
    · have e2 : (n1.toList == n2.toList) = false := by rw [Lib.toList_data, Lib.toList_data]; simpa using hn
      rw [if_neg hn, ← Lib.toList_data n1, ← Lib.toList_data n2] at hq
      have hq' := Lib.hid hq; clear hq hr hh hn
      go_enter Try.func26, Try.ntmps26
      go_wp2
      go_ret
      exact ⟨by rw [← hq'.out]; rfl, ((Keeps.refl _ _).alloc _).alloc _⟩
  · have e1 : (h1 != h2) = true := by simpa using hh
    rw [if_neg hh] at hq
    have hq' := Lib.hid hq; clear hq hr hh
    go_enter Try.func26, Try.ntmps26
    go_wp2
    go_ret
    exact ⟨by rw [← hq'.out]; rfl, ((Keeps.refl _ _).alloc _).alloc _⟩

set_option maxRecDepth 100000 in
theorem rLess_any (h1 h2 : Int) (n1 l1 v1 n2 l2 v2 : ByteArray) (r : Bool) (w : World) (hr : Hid (lessB ⟨h1, n1.data.toList, l1.data.toList, v1.data.toList⟩ ⟨h2, n2.data.toList, l2.data.toList, v2.data.toList⟩ = r)) :
    Calls Try.prog 27 #[.agg #[.int .i64 h1, .string n1, .string l1, .string v1], .agg #[.int .i64 h2, .string n2, .string l2, .string v2]] w (NewRes (.bool r) w) := by
  have hq := hr.out
  unfold lessB at hq
  simp only at hq
  by_cases hh : h1 = h2
  · have e1 : (h1 != h2) = false := by simpa using hh
    rw [if_pos hh] at hq
    by_cases hn : n1.data.toList = n2.data.toList
    · have e2 : (n1.toList == n2.toList) = true := by rw [Lib.toList_data, Lib.toList_data, hn]; simp
      rw [if_pos hn, ← Lib.toList_data l1, ← Lib.toList_data l2] at hq
      have hq' := Lib.hid hq; clear hq hr hh hn
      go_enter Try.func27, Try.ntmps27
      go_wp2
      go_ret
      exact ⟨by rw [← hq'.out]; rfl, ((Keeps.refl _ _).alloc _).alloc _⟩
    · have e2 : (n1.toList == n2.toList) = false := by rw [Lib.toList_data, Lib.toList_data]; simpa using hn
      rw [if_neg hn, ← Lib.toList_data n1, ← Lib.toList_data n2] at hq
      have hq' := Lib.hid hq; clear hq hr hh hn
      go_enter Try.func27, Try.ntmps27
      go_wp2
      go_ret
      exact ⟨by rw [← hq'.out]; rfl, ((Keeps.refl _ _).alloc _).alloc _⟩
  · have e1 : (h1 != h2) = true := by simpa using hh
    rw [if_neg hh] at hq
    have hq' := Lib.hid hq; clear hq hr hh
    go_enter Try.func27, Try.ntmps27
    go_wp2
    go_ret
    exact ⟨by rw [← hq'.out]; rfl, ((Keeps.refl _ _).alloc _).alloc _⟩
end Go.Proofs.Ytdjmhjgfjbcdkaa
