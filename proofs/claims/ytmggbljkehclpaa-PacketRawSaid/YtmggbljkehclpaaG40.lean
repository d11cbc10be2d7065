/- PU -/
import Derived.Test.YtmggbljkehclpaaG20
import Derived.Test.YtmggbljkehclpaaG28
set_option linter.unusedVariables false
set_option linter.unusedSimpArgs false
namespace Go.Proofs.Ytmggbljkehclpaa
open Go.RowKit
def reqP : a0x := e03 3 7 0 []
theorem req_ok : okP reqP = true := by kernel_rfl
theorem req_len : (putP reqP).length = 24 := by rw [h0f]; rfl
theorem req_get : getP (putP reqP) [] = (reqP, 0) := by kernel_rfl
theorem req_key : getP (putP reqP) [107, 101, 121] = (b0y, 9) := by kernel_rfl
theorem req_okD : reqP.ok := ⟨by show (7 : Nat) < 4294967296; omega, z32, z32, z32, z32, z32, c0h, g0g, g0x, g0w, z63, z63, z63, z63⟩
set_option maxRecDepth 100000 in
set_option maxHeartbeats 4000000 in
theorem e0s (w : World) : Calls Try.prog 9 #[] w fun e w' => e = .returned (.bool true) ∧ a02 (fun _ => False) w w' := by
 have hl := req_len
 go_enter Try.func9, Try.ntmps9
 go_wp2_with fail
 refine (l0u reqP none none none none 0 0 0 0 (Pa' 3 7 0 ⟨#[]⟩ 0 0 0 0 0 0 Sn 0 0 Sn Sn Sn) true _ (Hi rfl) (Hi ⟨a0u.nil _, e02 _, c0s _, h0y.nil _⟩) (Hi req_okD) (Hi req_ok)).mono ?_
 rintro e w1 ⟨⟨hyes, -⟩, k1⟩
 obtain ⟨q, d, rfl, hO⟩ := hyes rfl
 rw [hl] at hO ⊢
 have hb1 := Hi hO.bytes
 have k1' := Hi k1
 clear hO k1 hyes
 go_wp2_with fail
 refine (h0h _ (putP reqP) (by rw [hl]; omega) ⟨#[]⟩ [] (Hi rfl) (reqP, 0) _ hb1 (Hi req_get) (Hi (h0o _ _ (by rw [hl]; omega)))).mono ?_
 rintro e w2 ⟨⟨v, rfl, pa0, ca0, pa1, ca1, pa2, ca2, pa3, ca3, hv, -⟩, k2⟩
 obtain rfl : v = .agg (Pa 3 7 0 ⟨#[]⟩ 0 0 0 0 0 0 (.slice pa0 0 ca0) 0 0 (.slice pa1 0 ca1) (.slice pa2 0 ca2) (.slice pa3 0 ca3)) := hv
 have hb2 := Hi (hb1.out.keep k2)
 have hk2 := Hi (k1'.out.trans k2)
 have hX : Hid (a06 (w2.alloc (.cells (Pa 3 7 0 ⟨#[]⟩ 0 0 0 0 0 0 (.slice pa0 0 ca0) 0 0 (.slice pa1 0 ca1) (.slice pa2 0 ca2) (.slice pa3 0 ca3)) 40)) w2.heap.size 40 (Pa' 3 7 0 ⟨#[]⟩ 0 0 0 0 0 0 (.slice pa0 0 ca0) 0 0 (.slice pa1 0 ca1) (.slice pa2 0 ca2) (.slice pa3 0 ca3))) := Hi (a06.new w2 _ _)
 have hb3 := Hi (hb2.out.keep ((a02.refl (fun _ => False) _).alloc (.cells (Pa 3 7 0 ⟨#[]⟩ 0 0 0 0 0 0 (.slice pa0 0 ca0) 0 0 (.slice pa1 0 ca1) (.slice pa2 0 ca2) (.slice pa3 0 ca3)) 40)))
 have hk3 := Hi (hk2.out.alloc (.cells (Pa 3 7 0 ⟨#[]⟩ 0 0 0 0 0 0 (.slice pa0 0 ca0) 0 0 (.slice pa1 0 ca1) (.slice pa2 0 ca2) (.slice pa3 0 ca3)) 40))
 clear k2 hb1 k1' hb2 hk2
 go_upto_region 3 with ((with_reducible refine a08 3 ?_); go_must (refine a07 rfl 40 (.tmp 3) (.tmp 15) rfl _ (Pa 3 7 0 ⟨#[]⟩ 0 0 0 0 0 0 (.slice pa0 0 ca0) 0 0 (.slice pa1 0 ca1) (.slice pa2 0 ca2) (.slice pa3 0 ca3)) rfl rfl a0p rfl (a0s _ _ _ _ _ _ _ _ _ _ _ _ _ _ _ _ (a03 _ _ _) (a03 _ _ _) (a03 _ _ _) (a03 _ _ _)) ?_))
 generalize w2.alloc (.cells (Pa 3 7 0 ⟨#[]⟩ 0 0 0 0 0 0 (.slice pa0 0 ca0) 0 0 (.slice pa1 0 ca1) (.slice pa2 0 ca2) (.slice pa3 0 ca3)) 40) = w3 at hX hb3 hk3 ⊢
 go_wp2_with fail
 refine (h0h _ (putP reqP) (by rw [hl]; omega) ⟨#[107, 101, 121]⟩ [107, 101, 121] (Hi rfl) (b0y, 9) _ hb3 (Hi req_key) (Hi (h0o _ _ (by rw [hl]; omega)))).mono ?_
 rintro e w4 ⟨⟨v, rfl, pb0, cb0, pb1, cb1, pb2, cb2, pb3, cb3, hv, -⟩, k4⟩
 obtain rfl : v = .agg (Pa 0 0 0 ⟨#[]⟩ 0 0 0 0 0 0 (.slice pb0 0 cb0) 0 0 (.slice pb1 0 cb1) (.slice pb2 0 cb2) (.slice pb3 0 cb3)) := hv
 have hk5 := Hi ((hk3.out.trans k4).alloc (.cells (Pa 0 0 0 ⟨#[]⟩ 0 0 0 0 0 0 (.slice pb0 0 cb0) 0 0 (.slice pb1 0 cb1) (.slice pb2 0 cb2) (.slice pb3 0 cb3)) 40))
 have hX5 := Hi ((hX.out.keep k4 id).alloc (.cells (Pa 0 0 0 ⟨#[]⟩ 0 0 0 0 0 0 (.slice pb0 0 cb0) 0 0 (.slice pb1 0 cb1) (.slice pb2 0 cb2) (.slice pb3 0 cb3)) 40))
 have b1 := hX5.out.cell 1 (.int .u32 7) rfl
 clear k4 hX hb3 hk3
 go_wp2_with ((with_reducible refine a08 5 ?_); go_must (refine a07 rfl 40 (.tmp 5) (.tmp 20) rfl _ (Pa 0 0 0 ⟨#[]⟩ 0 0 0 0 0 0 (.slice pb0 0 cb0) 0 0 (.slice pb1 0 cb1) (.slice pb2 0 cb2) (.slice pb3 0 cb3)) rfl rfl a0p rfl (a0s _ _ _ _ _ _ _ _ _ _ _ _ _ _ _ _ (a03 _ _ _) (a03 _ _ _) (a03 _ _ _) (a03 _ _ _)) ?_))
 go_ret
 exact ⟨rfl, hk5.out⟩
end Go.Proofs.Ytmggbljkehclpaa
