/- writes, walked. -/
import Derived.Test.YtdjmhjgfjbcdkaaCFT
import Derived.Test.YtdjmhjgfjbcdkaaCFM
set_option linter.unusedVariables false
set_option linter.unusedSimpArgs false
namespace Go.Proofs.Ytdjmhjgfjbcdkaa
open Go.RowKit

def oneL : LineD := ⟨1, [48, 46, 48, 46, 48, 46, 48], [116, 121, 112, 101], [115, 116, 117, 98]⟩
set_option maxRecDepth 100000
theorem one_line : lineB oneL = true := by decide +kernel
theorem one_right : rightC [oneL] = true := by decide +kernel
theorem nil_right : rightC [] = true := by decide +kernel
theorem one_set : setC oneL [] = [oneL] := rfl
theorem one_there : thereB ⟨1, [48, 46, 48, 46, 48, 46, 48], [99, 111, 115, 116], []⟩ [oneL] = false := by decide +kernel
theorem one_default : ((findD 1 [99, 111, 115, 116]).map (·.df)) = some [49] := by decide +kernel
theorem one_T1 : (⟨#[97, 114, 101, 97, 32, 48, 46, 48, 46, 48, 46, 48, 32, 123, 10]⟩ : ByteArray) = ⟨#[97, 114, 101, 97]⟩ ++ ⟨#[32]⟩ ++ ⟨#[48, 46, 48, 46, 48, 46, 48]⟩ ++ ⟨#[32, 123, 10]⟩ := by decide +kernel
theorem one_T2 : (⟨#[116, 121, 112, 101, 32, 115, 116, 117, 98, 59, 10]⟩ : ByteArray) = ⟨#[116, 121, 112, 101]⟩ ++ ⟨#[32]⟩ ++ ⟨#[115, 116, 117, 98]⟩ ++ ⟨#[59, 10]⟩ := by decide +kernel
theorem one_T3 : (⟨#[32, 32, 116, 121, 112, 101, 32, 115, 116, 117, 98, 59, 10]⟩ : ByteArray) = ⟨#[32, 32]⟩ ++ ⟨#[116, 121, 112, 101, 32, 115, 116, 117, 98, 59, 10]⟩ := by decide +kernel
set_option maxHeartbeats 4000000 in
theorem writes_any (w : World) : Calls Try.prog 20 #[] w (NewRes (.bool true) w) := by
  go_enter Try.func20, Try.ntmps20
  go_wp2_with fail
  have hs : Calls Try.prog 12 #[.slice none 0 0, .agg #[.int .i64 1, .string ⟨#[48, 46, 48, 46, 48, 46, 48]⟩, .string ⟨#[116, 121, 112, 101]⟩, .string ⟨#[115, 116, 117, 98]⟩]] w (SetPost [oneL] w) := set_ok _ [] 1 ⟨#[48, 46, 48, 46, 48, 46, 48]⟩ ⟨#[116, 121, 112, 101]⟩ ⟨#[115, 116, 117, 98]⟩ false _ (Lib.hid (RowsAt.nil _)) (Lib.hid (fun l hl => by cases hl)) (by decide) (by decide) (Lib.hid nil_right) (Lib.hid one_line) (Lib.hid rfl) (by simp) (fun _ => by simp)
  refine hs.mono ?_
  rintro e w2 ⟨p, c, rfl, hO, k2⟩
  have hR : RowsAt 4 lineVals w2 (.slice p 1 c) [oneL] := hO.at lineVals_len
  obtain ⟨g, o, rfl, hrows⟩ := hR.open (by simp)
  have hrow : Hid (w2.rangeAt g o [.int .i64 1, .string ⟨#[48, 46, 48, 46, 48, 46, 48]⟩, .string ⟨#[116, 121, 112, 101]⟩, .string ⟨#[115, 116, 117, 98]⟩]) := Lib.hid (by
    have := hrows 0 oneL rfl
    rw [Nat.zero_mul, Nat.add_zero] at this
    exact this)
  have hR' := Lib.hid hR; have k2' := Lib.hid k2
  clear hO hR hrows k2
  have hlt : Hid (LinesLt [oneL] 9223372036854775807) := Lib.hid (fun l hl => by
    simp at hl; subst hl; decide)
  clear hs
  have ht : Calls Try.prog 21 #[.slice (some ⟨g, o, none⟩) 1 c] w2 (NewRes (.string ⟨#[97, 114, 101, 97, 32, 48, 46, 48, 46, 48, 46, 48, 32, 123, 10, 32, 32, 116, 121, 112, 101, 32, 115, 116, 117, 98, 59, 10, 125, 10]⟩) w2) :=
    text_one g o c _ _ _ _ _ _ _ w2 hrow (Lib.hid one_right) (by decide) (by decide) (by decide) (Lib.hid one_T1) (Lib.hid one_T2) (Lib.hid one_T3) (by decide) (by decide) (by decide) (Lib.hid rfl)
  have ht' := Lib.hid ht
  clear ht
  go_wp2_with fail
  refine ht'.out.mono ?_
  rintro e w3 ⟨rfl, k3⟩
  have hR3 := Lib.hid (hR'.out.keep k3)
  have k3' := Lib.hid (k2'.out.trans k3)
  clear k3 ht' hrow hR' k2'
  go_wp2_with fail
  refine (right_c _ [oneL] true _ (Lib.hid hR3.out.lines) (by decide) hlt (Lib.hid one_right)).mono ?_
  rintro e w4 ⟨rfl, k4⟩
  have hR4 := Lib.hid (hR3.out.keep k4)
  have k4' := Lib.hid (k3'.out.trans k4)
  clear k4 hR3 k3'
  obtain ⟨r, hr, hdf⟩ := Option.map_eq_some_iff.1 one_default
  have hr' := Lib.hid hr
  have hdf' : Hid ((⟨#[49]⟩ : ByteArray) = ⟨r.df.toArray⟩) := Lib.hid (by rw [hdf])
  clear hr hdf
  go_wp2_with fail
  refine (value_default _ [oneL] r 1 ⟨#[48, 46, 48, 46, 48, 46, 48]⟩ ⟨#[99, 111, 115, 116]⟩ ⟨#[49]⟩ _ hR4 (by decide) hlt (Lib.hid one_right) (Lib.hid one_there) hr' hdf').mono ?_
  rintro e w5 ⟨rfl, k5⟩
  have k5' := Lib.hid (k4'.out.trans k5)
  clear k5
  go_wp2_with fail
  go_ret
  exact ⟨rfl, k5'.out⟩
end Go.Proofs.Ytdjmhjgfjbcdkaa
