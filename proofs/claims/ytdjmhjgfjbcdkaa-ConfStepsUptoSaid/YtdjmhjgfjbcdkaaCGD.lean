/- Lines compared: the document's Same, walked. -/
import Derived.Test.YtdjmhjgfjbcdkaaCGC
set_option linter.unusedVariables false
set_option linter.unusedSimpArgs false
namespace Go.Proofs.Ytdjmhjgfjbcdkaa
open Go.RowKit

theorem line_neq (W : World) (h1 h2 : Int) (n1 f1 v1 n2 f2 v2 : ByteArray) (z : Bool) (hz : (z = false) ↔ (h1 = h2 ∧ n1.toList = n2.toList ∧ f1.toList = f2.toList ∧ v1.toList = v2.toList)) :
    (binOp .neq 28 (.agg #[.int .i64 h1, .string n1, .string f1, .string v1]) (.agg #[.int .i64 h2, .string n2, .string f2, .string v2])).run Try.prog W = .ok (.bool z) W := by
  by_cases e1 : h1 = h2
  · subst e1
    by_cases e2 : n1.toList = n2.toList
    · by_cases e3 : f1.toList = f2.toList
      · by_cases e4 : v1.toList = v2.toList
        · obtain rfl : z = false := hz.2 ⟨rfl, e2, e3, e4⟩
          go_simp
        · obtain rfl : z = true := by cases z with | true => rfl | false => exact absurd (hz.1 rfl).2.2.2 e4
          go_simp
      · obtain rfl : z = true := by cases z with | true => rfl | false => exact absurd (hz.1 rfl).2.2.1 e3
        go_simp
    · obtain rfl : z = true := by cases z with | true => rfl | false => exact absurd (hz.1 rfl).2.1 e2
      go_simp
  · obtain rfl : z = true := by cases z with | true => rfl | false => exact absurd (hz.1 rfl).1 e1
    go_simp
theorem guardLine5 (op : BinOp) (x y : Operand) (xs ys : Array Value) (w : World) : (eqGuard op 28 x y (.agg xs) (.agg ys)).run Try.prog w = .ok () w := run_eqGuard_agg w op 28 x y xs ys (by kernel_rfl)
set_option maxRecDepth 100000 in
set_option maxHeartbeats 4000000 in
theorem rSame_c (v u : Value) (xs ys : List LineD) (z : Bool) (w : World) (hv : Hid (RowsAt 4 lineVals w v xs)) (hu : Hid (RowsAt 4 lineVals w u ys)) (hl : xs.length ≤ 1000000) (hl2 : ys.length ≤ 1000000) (hz : Hid ((z = true) ↔ xs = ys)) :
    Calls Try.prog 11 #[v, u] w (NewRes (.bool z) w) := by
  obtain ⟨p, c, rfl⟩ := hv.out.slice
  obtain ⟨p2, c2, rfl⟩ := hu.out.slice
  by_cases hlen : xs.length = ys.length
  · have hlen' := Lib.hid hlen
    have hne : ((xs.length : Int) != ys.length) = false := by simp [hlen]
    clear hlen
    go_enter Try.func11, Try.ntmps11
    go_wp2_with fail
    go_loopw [5] (fun iv wr => ∃ (k : Nat), k ≤ xs.length ∧ iv = .int .i64 k ∧ Hid (xs.take k = ys.take k) ∧ Hid (Keeps (fun _ => False) w wr)) (fun iv _ => xs.length - (intOf iv).toNat)
    case atStart => exact ⟨0, by omega, rfl, Lib.hid rfl, Lib.hid (Keeps.refl _ _)⟩
    case round =>
      obtain ⟨k, hk, rfl, hT, hKw⟩ := hrel
      by_cases hlk : k < xs.length
      · have hlk2 : k < ys.length := by have := hlen'.out; omega
        obtain ⟨g, o, rfl, hrows⟩ := hv.out.open (by omega)
        obtain ⟨g2, o2, rfl, hrows2⟩ := hu.out.open (by omega)
        obtain ⟨x, hx⟩ : ∃ q, xs[k]? = some q := ⟨_, List.getElem?_eq_getElem hlk⟩
        obtain ⟨y, hy⟩ : ∃ q, ys[k]? = some q := ⟨_, List.getElem?_eq_getElem hlk2⟩
        obtain ⟨Nx, hN⟩ : ∃ N : ByteArray, N = ⟨x.name.toArray⟩ := ⟨_, rfl⟩
        obtain ⟨Fx, hF⟩ : ∃ N : ByteArray, N = ⟨x.leaf.toArray⟩ := ⟨_, rfl⟩
        obtain ⟨Vx, hV⟩ : ∃ N : ByteArray, N = ⟨x.value.toArray⟩ := ⟨_, rfl⟩
        obtain ⟨Ny, hN2⟩ : ∃ N : ByteArray, N = ⟨y.name.toArray⟩ := ⟨_, rfl⟩
        obtain ⟨Fy, hF2⟩ : ∃ N : ByteArray, N = ⟨y.leaf.toArray⟩ := ⟨_, rfl⟩
        obtain ⟨Vy, hV2⟩ : ∃ N : ByteArray, N = ⟨y.value.toArray⟩ := ⟨_, rfl⟩
        have hrow : Hid (wr.rangeAt g (o + k * 4) [.int .i64 x.head, .string Nx, .string Fx, .string Vx]) := Lib.hid (by rw [hN, hF, hV]; exact hKw.out.rangeAt (hrows k x hx) id)
        have hrow2 : Hid (wr.rangeAt g2 (o2 + k * 4) [.int .i64 y.head, .string Ny, .string Fy, .string Vy]) := Lib.hid (by rw [hN2, hF2, hV2]; exact hKw.out.rangeAt (hrows2 k y hy) id)
        obtain ⟨zz, hzz⟩ : ∃ b : Bool, (b = false) ↔ x = y := by
          by_cases e : x = y
          · exact ⟨false, by simp [e]⟩
          · exact ⟨true, by simp [e]⟩
        have hzz2 : Hid ((zz = false) ↔ (x.head = y.head ∧ Nx.toList = Ny.toList ∧ Fx.toList = Fy.toList ∧ Vx.toList = Vy.toList)) := Lib.hid (by
          rw [hzz]
          simp only [Lib.toList_data, hN, hF, hV, hN2, hF2, hV2]
          constructor
          · rintro rfl; exact ⟨rfl, rfl, rfl, rfl⟩
          · rintro ⟨a1, a2, a3, a4⟩
            cases x; cases y; simp at a1 a2 a3 a4; simp [a1, a2, a3, a4])
        have hx' := Lib.hid hx; have hy' := Lib.hid hy; have hzz' := Lib.hid hzz
        have m1 : (0 : Int) ≤ (k : Int) := by omega
        have m2 : (k : Int) < (xs.length : Int) := by omega
        have m3 : (k : Int) < (ys.length : Int) := by omega
        clear hrows hrows2 hN hF hV hN2 hF2 hV2 hx hy hzz
        go_upto_region 6 with fail
        refine wp_region_noPanic ?_
        refine wp_region_held_drew (S := (fun W => Keeps (fun _ => False) wr W)) (by kernel_rfl) (((Keeps.refl _ _).drew)) (fun hHeld => ?_)
        refine tk 0 rfl ?_
        refine tk 1 rfl ?_
        refine tk 2 rfl ?_
        refine tkL 3 rfl (yieldsIf_load_mid (by rfl) 28 (.tmp 19) rfl g (o + k * 4) rfl [.int .i64 x.head, .string Nx, .string Fx, .string Vx] _ (fun _ s => s.rangeAt hrow.out id) Try.underlying28 rfl line5InfoG) ?_
        refine tk 4 rfl ?_
        refine tk 5 rfl ?_
        refine tk 6 rfl ?_
        refine tkL 7 rfl (yieldsIf_load_mid (by rfl) 28 (.tmp 23) rfl g2 (o2 + k * 4) rfl [.int .i64 y.head, .string Ny, .string Fy, .string Vy] _ (fun _ s => s.rangeAt hrow2.out id) Try.underlying28 rfl line5InfoG) ?_
        refine tk 8 (v := .bool zz) (hy := fun wS hSw => by
          have hl := line_neq wS x.head y.head Nx Fx Vx Ny Fy Vy zz hzz2.out
          unfold execOp
          simp only [Act.eval, Array.getD_eq_getD_getElem?, List.getElem?_toArray, List.getElem?_cons_zero, List.getElem?_cons_succ, Option.getD_some, Sem.run_bind, Sem.run_pure, Result.andThen_ok, guardLine5, hl]) rfl ?_
        refine wpAnyH_done (by kernel_rfl) (NoPanic.normal ?_) _
        have hKz := Lib.hid (hKw.out.trans hHeld)
        clear hHeld
        cases zz with
        | true =>
          have hzf : Hid (z = false) := Lib.hid (by
            cases z with
            | false => rfl
            | true =>
              have e := hz.out.1 rfl
              have h1 := hx'.out; rw [e, hy'.out] at h1
              injection h1 with h1
              exact absurd (hzz'.out.2 h1.symm) (by decide))
          go_wp2_with fail
          go_ret
          exact ⟨by rw [hzf.out]; rfl, hKz.out⟩
        | false =>
          have exy : x = y := hzz'.out.1 rfl
          have hT2 : Hid (xs.take (k + 1) = ys.take (k + 1)) := Lib.hid (by
            obtain ⟨a1, a2⟩ := List.getElem?_eq_some_iff.1 hx'.out
            obtain ⟨b1, b2⟩ := List.getElem?_eq_some_iff.1 hy'.out
            rw [List.take_succ_eq_append_getElem a1, List.take_succ_eq_append_getElem b1, a2, b2, hT.out, exy])
          clear exy
          go_wp2_with fail
          exact ⟨⟨k + 1, by omega, by go_num, hT2, hKz⟩, by simp [intOf]; omega⟩
      · obtain rfl : k = xs.length := by omega
        have hzt : Hid (z = true) := Lib.hid (hz.out.2 (by
          have e := hT.out
          rw [List.take_length, List.take_of_length_le (by rw [hlen'.out]; exact Nat.le_refl _)] at e
          exact e))
        go_wp2_with fail
        go_ret
        exact ⟨by rw [hzt.out]; rfl, hKw.out⟩
  · have hne : ((xs.length : Int) != ys.length) = true := by simp; omega
    have hzf : Hid (z = false) := Lib.hid (by
      cases z with
      | false => rfl
      | true => exact absurd (congrArg List.length (hz.out.1 rfl)) hlen)
    clear hlen
    go_enter Try.func11, Try.ntmps11
    go_wp2_with fail
    go_ret
    exact ⟨by rw [hzf.out]; rfl, Keeps.refl _ _⟩
end Go.Proofs.Ytdjmhjgfjbcdkaa
