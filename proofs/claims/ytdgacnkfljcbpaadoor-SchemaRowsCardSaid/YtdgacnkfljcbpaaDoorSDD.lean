/- The table of rows. -/
import Derived.Test.YtdgacnkfljcbpaaDoorSDC
namespace Go.Proofs.YtdgacnkfljcbpaaDoor
open Go.RowKit

set_option maxRecDepth 100000 in
set_option maxHeartbeats 4000000 in
theorem table_len (w : World) :
    Calls Tryd.prog 15 #[] w fun e w' => ∃ p, e = .returned (.slice p 12 12) ∧ Keeps (fun _ => False) w w' := by
  go_enter Tryd.func15, Tryd.ntmps15
  go_wp2
  go_ret
  exact ⟨_, rfl, (((Keeps.refl _ _).alloc _).alloc _).alloc _⟩

theorem reads_net : netL [49, 48, 46, 48, 46, 48, 46, 49, 47, 50, 52] = some (167772161, 24) := by
  have h := netL_dotted (n := 167772161) (l := 24) (by omega) (by omega) (by omega)
  have e : dotted 167772161 ++ [47] ++ digs 24 = [49, 48, 46, 48, 46, 48, 46, 49, 47, 50, 52] := by
    unfold dotted dottedOf
    rw [show 167772161 / 16777216 % 256 = 10 from rfl, show 167772161 / 65536 % 256 = 0 from rfl, show 167772161 % 256 = 1 from rfl]
    rw [digs_ge (n := 10) (by omega), digs_ge (n := 24) (by omega), digs_lt (n := 10 / 10) (by omega), digs_lt (n := 24 / 10) (by omega), digs_lt (n := 0) (by omega)]
    rfl
  rw [e] at h
  exact h
theorem reads_dot : dotted 167772161 = [49, 48, 46, 48, 46, 48, 46, 49] := by
  unfold dotted dottedOf
  rw [show 167772161 / 16777216 % 256 = 10 from rfl, show 167772161 / 65536 % 256 = 0 from rfl, show 167772161 % 256 = 1 from rfl]
  rw [digs_ge (n := 10) (by omega), digs_lt (n := 10 / 10) (by omega), digs_lt (n := 0) (by omega)]
  rfl
theorem dotted_D (n : Nat) (D : ByteArray) (w : World) (hn : n < 4294967296) (ht : Hid (TabOk w)) (hD : Hid (strv (dotted n) = .string D)) :
    Calls Tryd.prog 12 #[.int .u32 (n : Nat)] w (NewRes (.string D) w) := by rw [← hD.out]; exact dotted_any n w hn ht
theorem rDotted_D (n : Nat) (D : ByteArray) (w : World) (hn : n < 4294967296) (hD : Hid (strv (dotted n) = .string D)) :
    Calls Tryd.prog 14 #[.int .u32 (n : Nat)] w (NewRes (.string D) w) := by rw [← hD.out]; exact rDotted_any n w hn

set_option maxRecDepth 100000 in
theorem reads4_any (w : World) (ht : Hid (TabOk w)) : Calls Tryd.prog 13 #[] w (NewRes (.bool true) w) := by
  have hN : Hid (netL (ByteArray.mk #[49, 48, 46, 48, 46, 48, 46, 49, 47, 50, 52]).data.toList = some (167772161, 24)) := Lib.hid reads_net
  have hD : Hid (strv (dotted 167772161) = .string ⟨#[49, 48, 46, 48, 46, 48, 46, 49]⟩) := Lib.hid (by rw [reads_dot]; rfl)
  go_enter Tryd.func13, Tryd.ntmps13
  go_wp2_with fail
  refine (net_some _ 167772161 24 _ (by decide) hN).mono ?_
  rintro e w1 ⟨rfl, m1, rfl⟩
  go_wp2_with fail
  refine (table_len _).mono ?_
  rintro e w2 ⟨p, rfl, hk2⟩
  have hk2' := Lib.hid hk2; clear hk2
  have ht2 := Lib.hid ((ht.out.drewN m1).keep hk2'.out)
  go_wp2_with fail
  refine (dotted_D 167772161 _ _ (by omega) ht2 hD).mono ?_
  rintro e w3 ⟨rfl, hk3⟩
  have hk3' := Lib.hid hk3; clear hk3
  go_wp2_with fail
  go_ret
  exact ⟨rfl, (((Keeps.refl _ w).drewN m1).trans hk2'.out).trans hk3'.out⟩
end Go.Proofs.YtdgacnkfljcbpaaDoor
