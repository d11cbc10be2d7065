/- All of the document's Get. -/
import Derived.Test.YtiogeepffdpafaaLBC
import Derived.Test.YtiogeepffdpafaaLBD
import Derived.Test.YtiogeepffdpafaaLBE
namespace Go.Proofs.Ytiogeepffdpafaa
open Go.RowKit

theorem r10Get_any (sl : Value) (x : List UInt8) (hx : x.length ≤ 1000000) (w : World) (h : Hid (BytesAt w sl x)) : Calls Try.prog 24 #[sl] w (GetPost x w) := by
  obtain ⟨p, c, rfl, -, hc, hb⟩ := h.out
  by_cases h20 : x.length < 20
  · exact r10Get_short p c x h20 w
  · obtain ⟨g, o, rfl, hr⟩ := hb (by omega)
    cases hri : rightF (x.drop 2) with
    | false => exact r10Get_b1 g o c x (by omega) hx hc w (Lib.hid hr) (Lib.hid hri)
    | true =>
      by_cases h16 : x[16]'(by omega) = 255
      · exact r10Get_b2 g o c x (by omega) hx hc w (Lib.hid hr) (Lib.hid hri) h16
      · by_cases h17 : x[17]'(by omega) = 255
        · exact r10Get_b3 g o c x (by omega) hx hc w (Lib.hid hr) (Lib.hid hri) h16 h17
        · cases hh : headOf x with
          | mk age type lid adv seq sum len =>
            obtain ⟨l1, l2⟩ := headOf_ok x _ hh
            by_cases t1 : type = 1
            · subst t1
              by_cases hs : x.length < 24
              · exact r10Get_s1 g o c x (by omega) hx hc age seq len lid adv sum w (Lib.hid hr) (Lib.hid hh) (Lib.hid hri) h16 h17 hs
              · exact r10Get_1 g o c x (by omega) hx hc age seq len lid adv sum w (Lib.hid hr) (Lib.hid hh) (Lib.hid hri) h16 h17 (by omega) l1 l2
            · by_cases t2 : type = 2
              · subst t2
                by_cases hs : x.length < 24
                · exact r10Get_s2 g o c x (by omega) hx hc age seq len lid adv sum w (Lib.hid hr) (Lib.hid hh) (Lib.hid hri) h16 h17 hs
                · exact r10Get_2 g o c x (by omega) hx hc age seq len lid adv sum w (Lib.hid hr) (Lib.hid hh) (Lib.hid hri) h16 h17 (by omega) l1 l2
              · by_cases t3 : type = 3
                · subst t3
                  by_cases hs : x.length < 28
                  · exact r10Get_s3 g o c x (by omega) hx hc age seq len lid adv sum w (Lib.hid hr) (Lib.hid hh) (Lib.hid hri) h16 h17 hs
                  · exact r10Get_3 g o c x (by omega) hx hc age seq len lid adv sum w (Lib.hid hr) (Lib.hid hh) (Lib.hid hri) h16 h17 (by omega) l1 l2
                · exact r10Get_o g o c x (by omega) hx hc age type seq len lid adv sum w (Lib.hid hr) (Lib.hid hh) (Lib.hid hri) h16 h17 t1 t2 t3
/-- .. with what it answers under names -/
theorem r10Get_r (sl : Value) (x : List UInt8) (m : LsaD) (e0 : Int) (hx : x.length ≤ 1000000) (w : World) (h : Hid (BytesAt w sl x)) (hm : Hid (getL x = (m, e0))) :
    Calls Try.prog 24 #[sl] w fun e w' => (∃ p5 c5 p7 c7, e = .returned (.tuple #[.agg #[.int .i64 m.age, .int .i64 m.type, .int .u32 m.id, .int .u32 m.adv, .int .i64 m.seq, .slice p5 m.links.length c5, .int .u32 m.mask, .slice p7 m.routers.length c7, .int .i64 m.cost], .int .i64 e0]) ∧ LinksAt w' (.slice p5 m.links.length c5) m.links ∧ NumsAt w' (.slice p7 m.routers.length c7) m.routers) ∧ Keeps (fun _ => False) w w' := by
  refine (r10Get_any sl x hx w h).mono ?_
  rintro e w' ⟨⟨v, rfl, hV⟩, hk⟩
  rw [hm.out] at hV ⊢
  obtain ⟨p5, c5, p7, c7, rfl, h1, h2⟩ := hV
  exact ⟨⟨p5, c5, p7, c7, rfl, h1, h2⟩, hk⟩
/-- no more than the bytes -/
theorem getL_lens (x : List UInt8) : (getL x).1.links.length ≤ x.length ∧ (getL x).1.routers.length ≤ x.length := by
  have hz : (zeroL.links.length ≤ x.length) ∧ (zeroL.routers.length ≤ x.length) := ⟨Nat.zero_le _, Nat.zero_le _⟩
  unfold getL
  split
  · exact hz
  · split
    · exact hz
    · split
      · exact hz
      · split
        · have := hearD_lens (headOf x).age (headOf x).type (headOf x).seq (headOf x).id (headOf x).adv (x.drop 20)
          rw [List.length_drop] at this
          exact ⟨Nat.le_trans this.1 (Nat.sub_le _ _), Nat.le_trans this.2 (Nat.sub_le _ _)⟩
        · exact hz
end Go.Proofs.Ytiogeepffdpafaa
