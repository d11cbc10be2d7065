/- alike, walked, where both rows are the same. -/
import Derived.Test.YtdgacnkfljcbpaaDoorSCO
namespace Go.Proofs.YtdgacnkfljcbpaaDoor
open Go.RowKit

set_option maxRecDepth 100000 in
set_option maxHeartbeats 2000000 in
theorem alike_same (hd kd lo hi cl : Int) (N F : ByteArray) (p q : Option Addr) (c d : Nat) (cs : List (List UInt8)) (w : World) (hl : cs.length ≤ 1000)
    (hp : Hid (StrsAt w (.slice p cs.length c) cs)) (hq : Hid (StrsAt w (.slice q cs.length d) cs)) :
    Calls Tryd.prog 17 #[.agg #[.int .i64 hd, .string N, .int .i64 kd, .int .i64 lo, .int .i64 hi, .slice p cs.length c, .string F, .int .i64 cl], .agg #[.int .i64 hd, .string N, .int .i64 kd, .int .i64 lo, .int .i64 hi, .slice q cs.length d, .string F, .int .i64 cl]] w (NewRes (.bool true) w) := by
  obtain ⟨p', c', e1, hp0⟩ := hp.out
  obtain ⟨q', d', e2, hq0⟩ := hq.out
  have ep : p' = p := by injection e1 with e _ _; exact e.symm
  have eq : q' = q := by injection e2 with e _ _; exact e.symm
  subst ep; subst eq
  have hp' := Lib.hid hp0; have hq' := Lib.hid hq0
  clear e1 e2 hp0 hq0 hp hq
  go_enter Tryd.func17, Tryd.ntmps17
  go_wp2
  go_loopw [5] (fun i wr => ∃ k : Nat, k ≤ cs.length ∧ i = .int .i64 k ∧ Hid (∃ m, wr = ((w.alloc (.cells #[.int .i64 hd, .string N, .int .i64 kd, .int .i64 lo, .int .i64 hi, .slice p' cs.length c, .string F, .int .i64 cl] 39)).alloc (.cells #[.int .i64 hd, .string N, .int .i64 kd, .int .i64 lo, .int .i64 hi, .slice q' cs.length d, .string F, .int .i64 cl] 40)).drewN m)) (fun i _ => cs.length - (intOf i).toNat)
  case atStart => exact ⟨0, by omega, rfl, Lib.hid ⟨0, rfl⟩⟩
  case round =>
    obtain ⟨k, hk, rfl, hm⟩ := hrel
    have b1 : wr.cell? ⟨w.heap.size, 5, none⟩ = some (.slice p' cs.length c) := by obtain ⟨m, rfl⟩ := hm.out; simp [go_sem]
    have b2 : wr.cell? ⟨w.heap.size + 1, 5, none⟩ = some (.slice q' cs.length d) := by obtain ⟨m, rfl⟩ := hm.out; simp [go_sem]
    have kw : Keeps (fun _ => False) w wr := by obtain ⟨m, rfl⟩ := hm.out; exact (((Keeps.refl _ _).alloc _).alloc _).drewN m
    by_cases hlt : k < cs.length
    · obtain ⟨g, o, rfl, hr⟩ := hp'.out (by omega)
      obtain ⟨g2, o2, rfl, hr2⟩ := hq'.out (by omega)
      obtain ⟨X, hX⟩ : ∃ X : ByteArray, X = ⟨(cs[k]).toArray⟩ := ⟨_, rfl⟩
      have c1 : wr.cell? ⟨g, o + k, none⟩ = some (.string X) := by rw [hX]; exact kw.rangeAt hr id k _ (by simp [hlt, strv])
      have c2 : wr.cell? ⟨g2, o2 + k, none⟩ = some (.string X) := by rw [hX]; exact kw.rangeAt hr2 id k _ (by simp [hlt, strv])
      have hX' := Lib.hid hX; have kw' := Lib.hid kw; clear hX hr hr2 kw
      go_wp2
      go_quiet (fail)
      go_wp2
      exact ⟨⟨k + 1, by omega, by go_num, by obtain ⟨m, rfl⟩ := hm.out; exact Lib.hid ⟨m + nq, by rw [World.drewN_drewN]⟩⟩, by simp [intOf]; omega⟩
    · have kw' := Lib.hid kw; clear kw
      go_wp2
      go_ret
      exact ⟨rfl, kw'.out⟩
end Go.Proofs.YtdgacnkfljcbpaaDoor
