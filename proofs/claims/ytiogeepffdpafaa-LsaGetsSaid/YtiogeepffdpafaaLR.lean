/- All of lsa.Get; puts. -/
import Derived.Test.YtiogeepffdpafaaLQ
namespace Go.Proofs.Ytiogeepffdpafaa
open Go.RowKit

theorem hearD_lens (age type seq : Int) (lid adv : Nat) (x : List UInt8) : (hearD age type lid adv seq x).links.length ≤ x.length ∧ (hearD age type lid adv seq x).routers.length ≤ x.length := by
  unfold hearD
  split
  · simp
  · split
    · simp only [readL_len, List.length_nil]; omega
    · split
      · simp only [readN_len, List.length_nil]; omega
      · split
        · simp
        · simp
theorem headOf_ok (x : List UInt8) (H : HeadD) (h : headOf x = H) : H.id < 4294967296 ∧ H.adv < 4294967296 := by
  rw [← h]
  exact ⟨sub_lt4 x 4 4 (by omega), sub_lt4 x 8 4 (by omega)⟩
theorem lsGet_any (sl : Value) (x : List UInt8) (hx : x.length ≤ 1000000) (w : World) (h : Hid (BytesAt w sl x)) : Calls Try.prog 17 #[sl] w (GetPost x w) := by
  obtain ⟨p, c, rfl, -, hc, hb⟩ := h.out
  by_cases h20 : x.length < 20
  · exact lsGet_short p c x h20 w
  · obtain ⟨g, o, rfl, hr⟩ := hb (by omega)
    cases hh : headOf x with
    | mk age type lid adv seq sum len =>
      obtain ⟨l1, l2⟩ := headOf_ok x _ hh
      cases hri : rightF (x.drop 2) with
      | false => exact lsGet_b1 g o c x (by omega) hx hc age type seq len lid adv sum w (Lib.hid hr) (Lib.hid hh) (Lib.hid hri)
      | true =>
        by_cases h16 : x[16]'(by omega) = 255
        · exact lsGet_b2 g o c x (by omega) hx hc age type seq len lid adv sum w (Lib.hid hr) (Lib.hid hh) (Lib.hid hri) h16
        · by_cases h17 : x[17]'(by omega) = 255
          · exact lsGet_b3 g o c x (by omega) hx hc age type seq len lid adv sum w (Lib.hid hr) (Lib.hid hh) (Lib.hid hri) h16 h17
          · by_cases hlen : len = (x.length : Int)
            · have hl := hearD_lens age type seq lid adv (x.drop 20)
              have hp := hearD_parts age type seq lid adv (x.drop 20)
              have hd : (x.drop 20).length ≤ 1000000 := by simp; omega
              cases hm : hearD age type lid adv seq (x.drop 20) with
              | mk mage mtype mid madv mseq mlinks mmask mrouters mcost =>
                rw [hm] at hl hp
                obtain ⟨q1, q2, q3, q4, q5⟩ := hp
                simp only at hl q1 q2 q3 q4 q5
                cases hcan : canB ⟨mage, mtype, mid, madv, mseq, mlinks, mmask, mrouters, mcost⟩ with
                | false => exact lsGet_d g o c x (by omega) hx hc age type seq len lid adv sum w (Lib.hid hr) (Lib.hid hh) (Lib.hid hri) h16 h17 (Lib.hid hlen) mage mtype mseq mcost mid madv mmask mlinks mrouters (Lib.hid hm) (by omega) (by omega) (Lib.hid hcan)
                | true =>
                  cases heq : (putB ⟨mage, mtype, mid, madv, mseq, mlinks, mmask, mrouters, mcost⟩ == x) with
                  | false => exact lsGet_e g o c x (by omega) hx hc age type seq len lid adv sum w (Lib.hid hr) (Lib.hid hh) (Lib.hid hri) h16 h17 (Lib.hid hlen) mage mtype mseq mcost mid madv mmask mlinks mrouters (Lib.hid hm) (by omega) (by omega) (Lib.hid q5) (Lib.hid q4) (by rw [q1]; exact l1) (by rw [q2]; exact l2) q3 (Lib.hid hcan) (Lib.hid heq)
                  | true => exact lsGet_f g o c x (by omega) hx hc age type seq len lid adv sum w (Lib.hid hr) (Lib.hid hh) (Lib.hid hri) h16 h17 (Lib.hid hlen) mage mtype mseq mcost mid madv mmask mlinks mrouters (Lib.hid hm) (by omega) (by omega) (Lib.hid q5) (Lib.hid q4) (by rw [q1]; exact l1) (by rw [q2]; exact l2) q3 (Lib.hid hcan) (Lib.hid heq)
            · exact lsGet_c g o c x (by omega) hx hc age type seq len lid adv sum w (Lib.hid hr) (Lib.hid hh) (Lib.hid hri) h16 h17 hlen
/-- .. with what it answers under names -/
theorem lsGet_r (sl : Value) (x : List UInt8) (m : LsaD) (e0 : Int) (hx : x.length ≤ 1000000) (w : World) (h : Hid (BytesAt w sl x)) (hm : Hid (getL x = (m, e0))) :
    Calls Try.prog 17 #[sl] w fun e w' => (∃ p5 c5 p7 c7, e = .returned (.tuple #[.agg #[.int .i64 m.age, .int .i64 m.type, .int .u32 m.id, .int .u32 m.adv, .int .i64 m.seq, .slice p5 m.links.length c5, .int .u32 m.mask, .slice p7 m.routers.length c7, .int .i64 m.cost], .int .i64 e0]) ∧ LinksAt w' (.slice p5 m.links.length c5) m.links ∧ NumsAt w' (.slice p7 m.routers.length c7) m.routers) ∧ Keeps (fun _ => False) w w' := by
  refine (lsGet_any sl x hx w h).mono ?_
  rintro e w' ⟨⟨v, rfl, hV⟩, hk⟩
  rw [hm.out] at hV ⊢
  obtain ⟨p5, c5, p7, c7, rfl, h1, h2⟩ := hV
  exact ⟨⟨p5, c5, p7, c7, rfl, h1, h2⟩, hk⟩

def oneL : LsaD := ⟨0, 1, 5, 5, -2147483647, [], 0, [], 0⟩
theorem one_can : canB oneL = true := by decide
theorem one_len : (putB oneL).length = 24 := by rw [putB_len]; decide
theorem one_get : getL (putB oneL) = (oneL, 0) := by kernel_rfl
set_option maxRecDepth 100000 in
set_option maxHeartbeats 4000000 in
theorem lwPuts_any (w : World) : Calls Try.prog 16 #[] w fun e w' => e = .returned (.bool true) ∧ Keeps (fun _ => False) w w' := by
  go_enter Try.func16, Try.ntmps16
  go_wp2_with fail
  refine (lsPut_yes 0 1 (-2147483647) 0 5 5 0 [] [] none none 0 0 _ (Lib.hid (LinksAt.nil _)) (Lib.hid (NumsAt.nil _)) (Lib.hid no_ok) (Lib.hid no_small) (by omega) (by omega) (by omega) (Lib.hid one_can)).mono ?_
  rintro e w1 ⟨p, c, rfl, hO, k1⟩
  have hl : (putB ⟨0, 1, 5, 5, -2147483647, [], 0, [], 0⟩).length = 24 := one_len
  rw [hl] at hO ⊢
  have hb := Lib.hid hO.bytes
  have k1' := Lib.hid k1
  clear hO k1
  go_wp2_with fail
  refine (lsGet_r _ (putB ⟨0, 1, 5, 5, -2147483647, [], 0, [], 0⟩) oneL 0 (by rw [hl]; omega) _ hb (Lib.hid one_get)).mono ?_
  rintro e w2 ⟨⟨p5, c5, p7, c7, rfl, -, -⟩, k2⟩
  have k2' := Lib.hid (k1'.out.trans k2)
  clear k2 hl hb
  go_wp2_with fail
  go_ret
  exact ⟨rfl, k2'.out.alloc _⟩
end Go.Proofs.Ytiogeepffdpafaa
