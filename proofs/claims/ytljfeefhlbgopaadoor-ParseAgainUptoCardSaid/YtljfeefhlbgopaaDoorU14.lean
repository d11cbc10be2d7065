/- Lines compared: the document's Same, walked. -/
import Derived.Test.YtljfeefhlbgopaaDoorU13
import Derived.Test.YtljfeefhlbgopaaDoorU07
set_option linter.unusedVariables false
set_option linter.unusedSimpArgs false
set_option linter.unusedVariables false
set_option linter.unusedSimpArgs false
namespace Go.Proofs.YtljfeefhlbgopaaDoor
open Go.RowKit

theorem line_neq (W : World) (h1 h2 : Int) (n1 f1 v1 n2 f2 v2 : ByteArray) (z : Bool) (hz : (z = false) ↔ (h1 = h2 ∧ n1.toList = n2.toList ∧ f1.toList = f2.toList ∧ v1.toList = v2.toList)) :
    (binOp .neq 37 (.agg #[.int .i64 h1, .string n1, .string f1, .string v1]) (.agg #[.int .i64 h2, .string n2, .string f2, .string v2])).run Tryd.prog W = .ok (.bool z) W := by
  by_cases e1 : h1 = h2
  · subst e1
    by_cases e2 : n1.toList = n2.toList
    · by_cases e3 : f1.toList = f2.toList
      · by_cases e4 : v1.toList = v2.toList
        · obtain rfl : z = false := hz.2 ⟨rfl, e2, e3, e4⟩
          go_simp
        · obtain rfl : z = true := by cases z with | true => rfl | false => exact absurd (hz.1 rfl).2.2.2 e4
          go_simp
      · obtain rfl : z = true := by cases z with | true => rfl | false => exact absurd (hz.1 rfl).2.2.1 e3
        go_simp
    · obtain rfl : z = true := by cases z with | true => rfl | false => exact absurd (hz.1 rfl).2.1 e2
      go_simp
  · obtain rfl : z = true := by cases z with | true => rfl | false => exact absurd (hz.1 rfl).1 e1
    go_simp
theorem guardLine5 (op : BinOp) (x y : Operand) (xs ys : Array Value) (w : World) : (eqGuard op 37 x y (.agg xs) (.agg ys)).run Tryd.prog w = .ok () w := run_eqGuard_agg w op 37 x y xs ys (by kernel_rfl)
set_option maxRecDepth 100000 in
set_option maxHeartbeats 4000000 in
theorem rSame_c (v u : Value) (xs ys : List LineD) (z : Bool) (w : World) (hv : Hid (RowsAt 4 lineVals w v xs)) (hu : Hid (RowsAt 4 lineVals w u ys)) (hl : xs.length ≤ 1000000) (hl2 : ys.length ≤ 1000000) (hz : Hid ((z = true) ↔ xs = ys)) :
    Calls Tryd.prog 8 #[v, u] w (NewRes (.bool z) w) := by
  obtain ⟨p, c, rfl⟩ := hv.out.slice
  obtain ⟨p2, c2, rfl⟩ := hu.out.slice
  by_cases hlen : xs.length = ys.length
  · have hlen' := Lib.hid hlen
    have hne : ((xs.length : Int) != ys.length) = false := by simp [hlen]
    clear hlen
    go_enter Tryd.func8, Tryd.ntmps8
    go_wp2_with fail
    go_loopw [5] (fun iv wr => ∃ (k : Nat), k ≤ xs.length ∧ iv = .int .i64 k ∧ Hid (xs.take k = ys.take k) ∧ Hid (Keeps (fun _ => False) w wr)) (fun iv _ => xs.length - (intOf iv).toNat)
    case atStart => exact ⟨0, by omega, rfl, Lib.hid rfl, Lib.hid (Keeps.refl _ _)⟩
    case round =>
      obtain ⟨k, hk, rfl, hT, hKw⟩ := hrel
      by_cases hlk : k < xs.length
      · have hlk2 : k < ys.length := by have := hlen'.out; omega
        obtain ⟨g, o, rfl, hrows⟩ := hv.out.open (by omega)
        obtain ⟨g2, o2, rfl, hrows2⟩ := hu.out.open (by omega)
        obtain ⟨x, hx⟩ : ∃ q, xs[k]? = some q := ⟨_, List.getElem?_eq_getElem hlk⟩
        obtain ⟨y, hy⟩ : ∃ q, ys[k]? = some q := ⟨_, List.getElem?_eq_getElem hlk2⟩
        obtain ⟨Nx, hN⟩ : ∃ N : ByteArray, N = ⟨x.name.toArray⟩ := ⟨_, rfl⟩
        obtain ⟨Fx, hF⟩ : ∃ N : ByteArray, N = ⟨x.leaf.toArray⟩ := ⟨_, rfl⟩
        obtain ⟨Vx, hV⟩ : ∃ N : ByteArray, N = ⟨x.value.toArray⟩ := ⟨_, rfl⟩
        obtain ⟨Ny, hN2⟩ : ∃ N : ByteArray, N = ⟨y.name.toArray⟩ := ⟨_, rfl⟩
        obtain ⟨Fy, hF2⟩ : ∃ N : ByteArray, N = ⟨y.leaf.toArray⟩ := ⟨_, rfl⟩
        obtain ⟨Vy, hV2⟩ : ∃ N : ByteArray, N = ⟨y.value.toArray⟩ := ⟨_, rfl⟩
        have hrow : Hid (wr.rangeAt g (o + k * 4) [.int .i64 x.head, .string Nx, .string Fx, .string Vx]) := Lib.hid (by rw [hN, hF, hV]; exact hKw.out.rangeAt (hrows k x hx) id)
        have hrow2 : Hid (wr.rangeAt g2 (o2 + k * 4) [.int .i64 y.head, .string Ny, .string Fy, .string Vy]) := Lib.hid (by rw [hN2, hF2, hV2]; exact hKw.out.rangeAt (hrows2 k y hy) id)
        obtain ⟨zz, hzz⟩ : ∃ b : Bool, (b = false) ↔ x = y := by
          by_cases e : x = y
          · exact ⟨false, by simp [e]⟩
          · exact ⟨true, by simp [e]⟩
        have hzz2 : Hid ((zz = false) ↔ (x.head = y.head ∧ Nx.toList = Ny.toList ∧ Fx.toList = Fy.toList ∧ Vx.toList = Vy.toList)) := Lib.hid (by
          rw [hzz]
          simp only [Lib.toList_data, hN, hF, hV, hN2, hF2, hV2]
          constructor
          · rintro rfl; exact ⟨rfl, rfl, rfl, rfl⟩
          · rintro ⟨a1, a2, a3, a4⟩
            cases x; cases y; simp at a1 a2 a3 a4; simp [a1, a2, a3, a4])
        have hx' := Lib.hid hx; have hy' := Lib.hid hy; have hzz' := Lib.hid hzz
        have m1 : (0 : Int) ≤ (k : Int) := by omega
        have m2 : (k : Int) < (xs.length : Int) := by omega
        have m3 : (k : Int) < (ys.length : Int) := by omega
        clear hrows hrows2 hN hF hV hN2 hF2 hV2 hx hy hzz
        go_upto_region 6 with fail
        refine wp_region_noPanic ?_
        refine wp_region_held_drew (S := (fun W => Keeps (fun _ => False) wr W)) (by kernel_rfl) (((Keeps.refl _ _).drew)) (fun hHeld => ?_)
        refine tk 0 rfl ?_
        refine tk 1 rfl ?_
        refine tk 2 rfl ?_
        refine tkL 3 rfl (yieldsIf_load_mid (by rfl) 37 (.tmp 19) rfl g (o + k * 4) rfl [.int .i64 x.head, .string Nx, .string Fx, .string Vx] _ (fun _ s => s.rangeAt hrow.out id) Tryd.underlying37 rfl line5InfoG) ?_
        refine tk 4 rfl ?_
        refine tk 5 rfl ?_
        refine tk 6 rfl ?_
        refine tkL 7 rfl (yieldsIf_load_mid (by rfl) 37 (.tmp 23) rfl g2 (o2 + k * 4) rfl [.int .i64 y.head, .string Ny, .string Fy, .string Vy] _ (fun _ s => s.rangeAt hrow2.out id) Tryd.underlying37 rfl line5InfoG) ?_
        refine tk 8 (v := .bool zz) (hy := fun wS hSw => by
          have hl := line_neq wS x.head y.head Nx Fx Vx Ny Fy Vy zz hzz2.out
          unfold execOp
          simp only [Act.eval, Array.getD_eq_getD_getElem?, List.getElem?_toArray, List.getElem?_cons_zero, List.getElem?_cons_succ, Option.getD_some, Sem.run_bind, Sem.run_pure, Result.andThen_ok, guardLine5, hl]) rfl ?_
        refine wpAnyH_done (by kernel_rfl) (NoPanic.normal ?_) _
        have hKz := Lib.hid (hKw.out.trans hHeld)
        clear hHeld
        cases zz with
        | true =>
          have hzf : Hid (z = false) := Lib.hid (by
            cases z with
            | false => rfl
            | true =>
              have e := hz.out.1 rfl
              have h1 := hx'.out; rw [e, hy'.out] at h1
              injection h1 with h1
              exact absurd (hzz'.out.2 h1.symm) (by decide))
          go_wp2_with fail
          go_ret
          exact ⟨by rw [hzf.out]; rfl, hKz.out⟩
        | false =>
          have exy : x = y := hzz'.out.1 rfl
          have hT2 : Hid (xs.take (k + 1) = ys.take (k + 1)) := Lib.hid (by
            obtain ⟨a1, a2⟩ := List.getElem?_eq_some_iff.1 hx'.out
            obtain ⟨b1, b2⟩ := List.getElem?_eq_some_iff.1 hy'.out
            rw [List.take_succ_eq_append_getElem a1, List.take_succ_eq_append_getElem b1, a2, b2, hT.out, exy])
          clear exy
          go_wp2_with fail
          exact ⟨⟨k + 1, by omega, by go_num, hT2, hKz⟩, by simp [intOf]; omega⟩
      · obtain rfl : k = xs.length := by omega
        have hzt : Hid (z = true) := Lib.hid (hz.out.2 (by
          have e := hT.out
          rw [List.take_length, List.take_of_length_le (by rw [hlen'.out]; exact Nat.le_refl _)] at e
          exact e))
        go_wp2_with fail
        go_ret
        exact ⟨by rw [hzt.out]; rfl, hKw.out⟩
  · have hne : ((xs.length : Int) != ys.length) = true := by simp; omega
    have hzf : Hid (z = false) := Lib.hid (by
      cases z with
      | false => rfl
      | true => exact absurd (congrArg List.length (hz.out.1 rfl)) hlen)
    clear hlen
    go_enter Tryd.func8, Tryd.ntmps8
    go_wp2_with fail
    go_ret
    exact ⟨by rw [hzf.out]; rfl, Keeps.refl _ _⟩
end Go.Proofs.YtljfeefhlbgopaaDoor
/- ParseTexts, walked. -/
set_option linter.unusedVariables false
set_option linter.unusedSimpArgs false
namespace Go.Proofs.YtljfeefhlbgopaaDoor
open Go.RowKit

theorem textD_right : ∀ (n : Nat) (o : Option (Int × List UInt8)) (ws : List (List UInt8)) (s s' : StP), ws.length ≤ n → rightC s.1 = true → textD o ws s = some s' → rightC s'.1 = true := by
  intro n
  induction n with
  | zero =>
    intro o ws s s' hn hs h
    obtain rfl : ws = [] := List.length_eq_zero_iff.1 (by omega)
    rw [textD.eq_def] at h
    simp only [] at h
    split at h
    · cases h
    · injection h with h; rw [← h]; exact hs
  | succ n ih =>
    intro o ws s s' hn hs h
    match ws, hn with
    | [], _ =>
      rw [textD.eq_def] at h
      simp only [] at h
      split at h
      · cases h
      · injection h with h; rw [← h]; exact hs
    | a :: r, hn =>
      simp only [List.length_cons] at hn
      rw [textD.eq_def] at h
      simp only [] at h
      split at h
      · exact ih _ _ _ _ (by omega) hs h
      · match r, hn with
        | [], _ => cases h
        | [_], _ => cases h
        | b :: c :: r2, hn =>
          simp only [List.length_cons] at hn
          simp only [] at h
          split at h
          · split at h
            · exact ih _ _ _ _ (by omega) hs h
            · cases h
          · split at h
            · split at h
              · rename_i hl
                exact ih _ _ _ _ (by omega) (putS_right hs hl) h
              · cases h
            · cases h
theorem ansT_right (t : List UInt8) : rightC (ansT t).1 = true := by
  unfold ansT
  split
  · decide +kernel
  · split
    · decide +kernel
    · rename_i C f h
      have := textD_right _ _ _ _ _ (Nat.le_refl _) (by decide +kernel) h
      split
      · decide +kernel
      · exact this
set_option maxRecDepth 100000 in
set_option maxHeartbeats 4000000 in
theorem parseTexts_law (s : ByteArray) (w : World) (hs : s.size ≤ 9223372036854775807) (ht : Hid (VerbsOk w)) :
    Calls Tryd.prog 3 #[.string s] w (lawEnd w) := by
  by_cases h : s.size ≤ 4000
  all_goals
    go_enter Tryd.func3, Tryd.ntmps3
    go_wp2_with fail
    first
      | (obtain ⟨x, hx⟩ : ∃ x : ByteArray, x = s.extract 0 4000 := ⟨_, rfl⟩
         have hxs : x.size ≤ 4000 := by rw [hx]; exact cut_size s 4000
         rw [← hx])
      | (obtain ⟨x, hx⟩ : ∃ x : ByteArray, x = s := ⟨_, rfl⟩
         have hxs : x.size ≤ 4000 := by rw [hx]; exact h
         rw [← hx])
    have hx' := Lib.hid hx; clear hx h
    obtain ⟨R, ee, hans⟩ : ∃ R ee, ansT x.data.toList = (R, ee) := ⟨_, _, rfl⟩
    have hlen : R.length ≤ 64 := by have := right_len (ansT_right x.data.toList); rw [hans] at this; exact this
    have hans' := Lib.hid hans
    clear hans
    refine (pText_any x _ (by omega)).mono ?_
    rintro e w1 hp1
    rw [hans'.out] at hp1
    obtain ⟨p1, c1, rfl, hR1, k1⟩ := hp1
    simp only at hR1 ⊢
    have hR1' := Lib.hid hR1
    have hk1 := Lib.hid k1
    clear k1 hR1
    go_wp2_with fail
    refine (rText6_any x _ (by omega)).mono ?_
    rintro e w2 hp2
    rw [hans'.out] at hp2
    obtain ⟨p2, c2, rfl, hR2, k2⟩ := hp2
    simp only at hR2 ⊢
    have hR2' := Lib.hid hR2
    have hR12 := Lib.hid (hR1'.out.keep k2)
    have hk2 := Lib.hid (hk1.out.trans k2)
    have ht2 := Lib.hid (ht.out.keep hk2.out)
    clear k2 hR2 hR1' hk1 hans'
    go_wp2_with fail
    refine (reads6_any _ ht2).mono ?_
    rintro e w3 ⟨rfl, k3⟩
    have hR13 := Lib.hid (hR12.out.keep k3)
    have hR23 := Lib.hid (hR2'.out.keep k3)
    have hk3 := Lib.hid (hk2.out.trans k3)
    clear k3 hR12 hR2' hk2 ht2
    go_wp2_with fail
    refine (from_any _ R _ hR13 (by omega)).mono ?_
    rintro e w4 ⟨p4, c4, rfl, hO4, k4⟩
    have hR4 := Lib.hid (hO4.at lineVals_len)
    have hR24 := Lib.hid (hR23.out.keep k4)
    have hk4 := Lib.hid (hk3.out.trans k4)
    clear k4 hO4 hR13 hR23 hk3
    go_wp2_with fail
    refine (rSame_c _ _ R R true _ hR4 hR24 (by omega) (by omega) (Lib.hid ⟨fun _ => rfl, fun _ => rfl⟩)).mono ?_
    rintro e w5 ⟨rfl, k5⟩
    have hk5 := Lib.hid (hk4.out.trans k5)
    clear k5 hk4 hR4 hR24
    go_wp2_with fail
    go_ret
    exact lawEnd.mk hk5.out
end Go.Proofs.YtljfeefhlbgopaaDoor
/- The document's Set of a wrong line; the law's Build, walked (gen_cgf.py). -/
set_option linter.unusedVariables false
set_option linter.unusedSimpArgs false
namespace Go.Proofs.YtljfeefhlbgopaaDoor
open Go.RowKit

set_option maxRecDepth 100000 in
set_option maxHeartbeats 4000000 in
theorem rSet_no (v : Value) (ls : List LineD) (h : Int) (N F V : ByteArray) (w : World) (hv : Hid (RowsAt 4 lineVals w v ls)) (hlt : Hid (LinesLt ls 8796093022000)) (hn : N.size ≤ 8796093022000) (hvs : V.size ≤ 8796093022000)
    (hlen : ls.length ≤ 64) (hr : Hid (rightC ls = true)) (hx : Hid (lineB ⟨h, N.data.toList, F.data.toList, V.data.toList⟩ = false)) :
    Calls Tryd.prog 19 #[v, .agg #[.int .i64 h, .string N, .string F, .string V]] w (NewRes (.tuple #[.slice none 0 0, .int .i64 1]) w) := by
  obtain ⟨p, c, rfl⟩ := hv.out.slice
  have hLn := Lib.hid hv.out.lines
  have hB : Hid (BlkAt (w.alloc (.cells #[.int .i64 h, .string N, .string F, .string V] 37)) w.heap.size 37 [.int .i64 h, .string N, .string F, .string V]) := Lib.hid (BlkAt.new _ _ _)
  have hK0 : Hid (Keeps (fun _ => False) w (w.alloc (.cells #[.int .i64 h, .string N, .string F, .string V] 37))) := Lib.hid ((Keeps.refl _ _).alloc _)
  go_enter Tryd.func19, Tryd.ntmps19
  go_upto_region 1 with fail
  generalize w.alloc (.cells #[.int .i64 h, .string N, .string F, .string V] 37) = w1 at hB hK0 ⊢
  generalize hgb : w.heap.size = gb at hB ⊢
  clear hgb
  go_wp2_with fail
  refine (rRight_c _ ls true _ (Lib.hid (hLn.out.keep hK0.out (fun _ _ _ f => f))) (by omega) hlt hr).mono ?_
  rintro e w2 ⟨rfl, k2⟩
  have k2' := Lib.hid k2
  clear k2
  have hB2 := Lib.hid (hB.out.keep k2'.out id)
  go_wp2_with ((with_reducible refine at_slot 13 ?_); refine wpList_load_mid_g (by rfl) 37 (.tmp 3) rfl gb 0 rfl [.int .i64 h, .string N, .string F, .string V] _ hB2.out.range Tryd.underlying37 rfl line5InfoG ?_)
  refine (rRightLine_any h N F V false _ hn hvs hx).mono ?_
  rintro e w3 ⟨rfl, k3⟩
  have hK3 := Lib.hid (hK0.out.trans (k2'.out.trans k3))
  clear k3 k2' hB hB2 hK0 hLn
  go_wp2_with fail
  go_ret2
  exact ⟨rfl, hK3.out⟩

def bK (ls : List LineD) (k : Nat) : List LineD := (ls.take k).foldl stepB []
theorem bK_step {q : LineD} {ls : List LineD} {k : Nat} (hq : ls[k]? = some q) : bK ls (k + 1) = stepB (bK ls k) q := by
  obtain ⟨hk, e⟩ := List.getElem?_eq_some_iff.1 hq
  unfold bK
  rw [List.take_succ_eq_append_getElem hk, e, List.foldl_append]; rfl
theorem bK_right (ls : List LineD) (k : Nat) : rightC (bK ls k) = true := fold_right _ _ (by decide +kernel)

set_option maxRecDepth 100000 in
set_option maxHeartbeats 4000000 in
theorem build_any (v : Value) (ls : List LineD) (w : World) (hv : Hid (RowsAt 4 lineVals w v ls)) (hl : ls.length ≤ 1000000000000) (hlt : Hid (LinesLt ls 8796093022000)) :
    Calls Tryd.prog 10 #[v] w (CopyPost 37 (buildC ls) w) := by
  obtain ⟨p, c, rfl⟩ := hv.out.slice
  go_enter Tryd.func10, Tryd.ntmps10
  go_wp2_with fail
  go_loopw [4, 3] (fun iv cv wr => ∃ (k : Nat) (q : Option Addr) (d : Nat), k ≤ ls.length ∧ k ≤ 100 ∧ iv = .int .i64 k ∧ cv = .slice q (bK ls k).length d ∧ Hid (OwnR 37 4 lineVals w wr cv (bK ls k)) ∧ Hid (Keeps (fun _ => False) w wr)) (fun iv _ _ => 100 - (intOf iv).toNat)
  case atStart => exact ⟨0, none, 0, by omega, by omega, rfl, rfl, Lib.hid (OwnR.nil _ _ (Nat.le_refl _)), Lib.hid (Keeps.refl _ _)⟩
  case round =>
    obtain ⟨k, qa, d, hk, hk2, rfl, rfl, hO, hKw⟩ := hrel
    have hbr := Lib.hid (bK_right ls k)
    generalize hbk : bK ls k = B at hO hbr ⊢
    have hbk' := Lib.hid hbk
    clear hbk
    by_cases hlk : k < ls.length
    · by_cases h100 : k < 100
      · obtain ⟨g, o, rfl, hrows⟩ := hv.out.open (by omega)
        obtain ⟨q, hq⟩ : ∃ q, ls[k]? = some q := ⟨_, List.getElem?_eq_getElem hlk⟩
        have hsz := hlt.out q (List.mem_of_getElem? hq)
        obtain ⟨Nq, hN⟩ : ∃ N : ByteArray, N = ⟨q.name.toArray⟩ := ⟨_, rfl⟩
        obtain ⟨Fq, hF⟩ : ∃ N : ByteArray, N = ⟨q.leaf.toArray⟩ := ⟨_, rfl⟩
        obtain ⟨Vq, hV⟩ : ∃ N : ByteArray, N = ⟨q.value.toArray⟩ := ⟨_, rfl⟩
        have hNs : Nq.size ≤ 8796093022000 := by rw [hN]; exact hsz.1
        have hVs : Vq.size ≤ 8796093022000 := by rw [hV]; exact hsz.2.2
        have hrow : Hid (wr.rangeAt g (o + k * 4) [.int .i64 q.head, .string Nq, .string Fq, .string Vq]) := Lib.hid (by rw [hN, hF, hV]; exact hKw.out.rangeAt (hrows k q hq) id)
        have hqd : Hid (q = ⟨q.head, Nq.data.toList, Fq.data.toList, Vq.data.toList⟩) := Lib.hid (by rw [hN, hF, hV])
        have hstep := Lib.hid (bK_step hq)
        rw [hbk'.out] at hstep
        have m1 : (0 : Int) ≤ (k : Int) := by omega
        have m2 : (k : Int) < (ls.length : Int) := by omega
        have hR : Hid (RowsAt 4 lineVals wr (.slice qa B.length d) B) := Lib.hid (hO.out.at lineVals_len)
        have hB64 := right_len hbr.out
        have hBlt := Lib.hid (right_lt hbr.out 8796093022000 (by omega))
        clear hrows hN hF hV hq hsz
        go_wp2_with ((with_reducible refine at_slot 22 ?_); refine wpList_load_mid rfl 37 (.tmp 21) rfl g (o + k * 4) rfl [.int .i64 q.head, .string Nq, .string Fq, .string Vq] _ hrow.out Tryd.underlying37 rfl line5InfoG ?_)
        cases hz : lineB ⟨q.head, Nq.data.toList, Fq.data.toList, Vq.data.toList⟩ with
        | false =>
          have hz' := Lib.hid hz
          have hsame : Hid (bK ls (k + 1) = B) := Lib.hid (by rw [hstep.out]; unfold stepB; rw [if_neg]; rw [hqd.out, hz]; simp)
          clear hz
          refine (rSet_no _ B q.head Nq Fq Vq wr hR hBlt hNs hVs hB64 hbr hz').mono ?_
          rintro e w3 ⟨rfl, k3⟩
          have hO3 := Lib.hid (hO.out.keep k3 (fun _ _ f => f))
          have hK3 := Lib.hid (hKw.out.trans k3)
          clear k3
          go_wp2_with fail
          exact ⟨⟨k + 1, qa, d, by omega, by omega, by go_num, by rw [hsame.out], by rw [hsame.out]; exact hO3, hK3⟩, by simp [intOf]; omega⟩
        | true =>
          have hz' := Lib.hid hz
          clear hz
          refine (rSet_c _ B q.head Nq Fq Vq wr hR hBlt hNs hVs hB64 hbr hz').mono ?_
          rintro e w3 ⟨p1, p2, k3⟩
          rw [← hqd.out] at p1 p2
          have hK3 := Lib.hid (hKw.out.trans k3)
          by_cases h65 : (setC q B).length ≤ 64
          · obtain ⟨q3, d3, rfl, hO3⟩ := p1 h65
            have hsame : Hid (bK ls (k + 1) = setC q B) := Lib.hid (by rw [hstep.out]; unfold stepB; rw [if_pos]; exact ⟨by rw [hqd.out]; exact hz'.out, h65⟩)
            have hO3' := Lib.hid (hO3.older (w0 := w) hKw.out.size)
            clear hO3 k3 p1 p2 h65
            go_wp2_with fail
            exact ⟨⟨k + 1, q3, d3, by omega, by omega, by go_num, by rw [hsame.out], by rw [hsame.out]; exact hO3', hK3⟩, by simp [intOf]; omega⟩
          · obtain rfl := p2 (by omega)
            have hsame : Hid (bK ls (k + 1) = B) := Lib.hid (by rw [hstep.out]; unfold stepB; rw [if_neg]; exact fun e => h65 e.2)
            have hO3 := Lib.hid (hO.out.keep k3 (fun _ _ f => f))
            clear k3 p1 p2 h65
            go_wp2_with fail
            exact ⟨⟨k + 1, qa, d, by omega, by omega, by go_num, by rw [hsame.out], by rw [hsame.out]; exact hO3, hK3⟩, by simp [intOf]; omega⟩
      · obtain rfl : k = 100 := by omega
        have hend : Hid (buildC ls = B) := Lib.hid (by rw [← hbk'.out]; rfl)
        clear h100 hk2
        go_wp2_with fail
        go_ret
        rw [hend.out]
        exact ⟨qa, d, rfl, hO.out, hKw.out⟩
    · obtain rfl : k = ls.length := by omega
      have hend : Hid (buildC ls = B) := Lib.hid (by
        rw [← hbk'.out]; unfold buildC bK
        rw [List.take_of_length_le hk2, List.take_length])
      go_wp2_with fail
      go_ret
      rw [hend.out]
      exact ⟨qa, d, rfl, hO.out, hKw.out⟩
end Go.Proofs.YtljfeefhlbgopaaDoor
/- The text of a configuration, plain (gen_zti.py: parts of CFK, CGR, CGS, for a seat without conf.Text). -/
set_option linter.unusedVariables false
set_option linter.unusedSimpArgs false
namespace Go.Proofs.YtljfeefhlbgopaaDoor
open Go.RowKit

def prevOf (ls : List LineD) (k : Nat) : Option LineD := match k with | 0 => none | j + 1 => ls[j]?
def headC (h : Int) : List UInt8 := if h = 1 then [97, 114, 101, 97] else [105, 110, 116, 101, 114, 102, 97, 99, 101]
def sameC (a b : LineD) : Bool := decide (a.head = b.head) && decide (a.name = b.name)
def writtenC (q : LineD) : List UInt8 := q.leaf ++ [32] ++ q.value ++ [59, 10]
def firstC (p : Option LineD) (q : LineD) : List UInt8 := match p with
  | some p => if sameC p q = true then [] else headC q.head ++ [32] ++ q.name ++ [32, 123, 10]
  | none => headC q.head ++ [32] ++ q.name ++ [32, 123, 10]
def lastC (q : LineD) (n : Option LineD) : List UInt8 := match n with
  | some n => if sameC q n = true then [] else [125, 10]
  | none => [125, 10]
def pieceC (p : Option LineD) (q : LineD) (n : Option LineD) : List UInt8 := if q.head = 0 then writtenC q else firstC p q ++ ([32, 32] ++ writtenC q) ++ lastC q n
def textK (ls : List LineD) : Nat → List UInt8
  | 0 => []
  | k + 1 => textK ls k ++ (match ls[k]? with | some q => pieceC (prevOf ls k) q (ls[k + 1]?) | none => [])
theorem textK_step {ls : List LineD} {k : Nat} {q : LineD} (hq : ls[k]? = some q) : textK ls (k + 1) = textK ls k ++ pieceC (prevOf ls k) q (ls[k + 1]?) := by rw [textK, hq]
theorem headC_len (h : Int) : (headC h).length ≤ 9 := by unfold headC; split <;> simp
theorem firstC_len (p : Option LineD) {q : LineD} (hs : q.name.length ≤ 100) : (firstC p q).length ≤ 120 := by
  have := headC_len q.head
  unfold firstC
  split
  · split
    · simp
    · simp; omega
  · simp; omega
theorem lastC_len (q : LineD) (n : Option LineD) : (lastC q n).length ≤ 2 := by
  unfold lastC
  split
  · split <;> simp
  · simp
theorem pieceC_len (p n : Option LineD) {q : LineD} (hs : q.name.length ≤ 100 ∧ q.leaf.length ≤ 100 ∧ q.value.length ≤ 100) : (pieceC p q n).length ≤ 400 := by
  have h1 := firstC_len p hs.1
  have h2 := lastC_len q n
  unfold pieceC writtenC
  split
  · simp; omega
  · simp; omega
theorem textK_len {ls : List LineD} (hs : ∀ q ∈ ls, q.name.length ≤ 100 ∧ q.leaf.length ≤ 100 ∧ q.value.length ≤ 100) : ∀ k, (textK ls k).length ≤ 400 * k := by
  intro k
  induction k with
  | zero => simp [textK]
  | succ k ih =>
    cases hq : ls[k]? with
    | none => rw [textK, hq]; simp; omega
    | some q =>
      rw [textK_step hq, List.length_append]
      have := pieceC_len (prevOf ls k) (ls[k + 1]?) (hs q (List.mem_of_getElem? hq))
      omega
theorem line_head {l : LineD} (h : lineB l = true) : l.head = 0 ∨ l.head = 1 ∨ l.head = 2 := by
  unfold lineB at h
  cases hf : findD l.head l.leaf with
  | none => rw [hf] at h; cases h
  | some r =>
    have hm : r ∈ tableD := List.mem_of_find?_eq_some hf
    have hp := List.find?_some hf
    rw [decide_eq_true_eq] at hp
    have hall : ∀ q ∈ tableD, q.head = 0 ∨ q.head = 1 ∨ q.head = 2 := by decide
    rw [← hp.1]; exact hall r hm

theorem firstC_yes {p q : LineD} (h1 : p.head = q.head) (h2 : p.name = q.name) : firstC (some p) q = [] := by unfold firstC sameC; simp [h1, h2]
theorem firstC_no {p q : LineD} (h : ¬ (p.head = q.head ∧ p.name = q.name)) : firstC (some p) q = headC q.head ++ [32] ++ q.name ++ [32, 123, 10] := by
  unfold firstC sameC; simp only; rw [if_neg (by simpa using h)]
theorem lastC_yes {p q : LineD} (h1 : p.head = q.head) (h2 : p.name = q.name) : lastC p (some q) = [] := by unfold lastC sameC; simp [h1, h2]
theorem lastC_no {p q : LineD} (h : ¬ (p.head = q.head ∧ p.name = q.name)) : lastC p (some q) = [125, 10] := by
  unfold lastC sameC; simp only; rw [if_neg (by simpa using h)]
theorem notdec_nil {a : List UInt8} (h : a = []) : (!decide (a = [])) = false := by subst h; rfl
theorem notdec_cons {a b : List UInt8} {x : UInt8} (h : a = b ++ [x]) : (!decide (a = [])) = true := by subst h; simp
theorem list_ends (a b : List UInt8) : a ++ [32] ++ b ++ [32, 123, 10] = (a ++ [32] ++ b ++ [32, 123]) ++ [10] := by simp
theorem ba_of' {N : ByteArray} {l : List UInt8} (h : N.data.toList = l) : N = ⟨l.toArray⟩ := by subst h; rfl
end Go.Proofs.YtljfeefhlbgopaaDoor
/- The text of a configuration is read as its words: plain. -/
set_option linter.unusedVariables false
set_option linter.unusedSimpArgs false
namespace Go.Proofs.YtljfeefhlbgopaaDoor
open Go.RowKit

/-! each leaf, name and value is a word -/
theorem decVal_fold (l : List UInt8) : ∀ n : Nat, l.foldl (fun n c => n * 10 + (c.toNat - 48)) n = n * 10 ^ l.length + decVal l := by
  induction l with
  | nil => intro n; simp [decVal]
  | cons c r ih =>
    intro n
    have e : decVal (c :: r) = (0 * 10 + (c.toNat - 48)) * 10 ^ r.length + decVal r := by
      show r.foldl _ (0 * 10 + (c.toNat - 48)) = _
      exact ih _
    rw [List.foldl_cons, ih, e, List.length_cons, Nat.pow_succ]
    simp only [Nat.zero_mul, Nat.zero_add]
    rw [Nat.add_mul, Nat.mul_assoc n 10, Nat.mul_comm 10 (10 ^ r.length)]
    omega
theorem digB_word {c : UInt8} (h : digB c = true) : wordB c = true := by
  have key : ∀ n : Nat, n < 256 → digB (UInt8.ofNat n) = true → wordB (UInt8.ofNat n) = true := by decide +kernel
  have := key c.toNat c.toNat_lt
  rw [UInt8.ofNat_toNat] at this
  exact this h
theorem decL_word {s : List UInt8} {n : Nat} (h : decL s = some n) : s.all wordB = true ∧ 1 ≤ s.length ∧ s.length ≤ 9 := by
  have h1 := decL_digs h
  have h2 := decL_len h
  unfold decL at h
  split at h
  · rename_i h'
    simp only [Bool.and_eq_true] at h'
    have h3 := h'.1; unfold decShape at h3; rw [decide_eq_true_eq] at h3
    exact ⟨by rw [List.all_eq_true] at h1 ⊢; exact fun c hc => digB_word (h1 c hc), h3.1, h2⟩
  · cases h
theorem decL_len3 {s : List UInt8} {n : Nat} (h : decL s = some n) (hn : n ≤ 255) : s.length ≤ 3 := by
  have h1 := decL_digs h
  unfold decL at h
  split at h
  · rename_i h'
    simp only [Bool.and_eq_true] at h'
    have h3 := h'.1; unfold decShape at h3; rw [decide_eq_true_eq] at h3
    injection h with h
    cases s with
    | nil => simp
    | cons c r =>
      by_cases hr : r = []
      · subst hr; simp
      · have hl : 0 < r.length := by cases r with | nil => exact absurd rfl hr | cons => simp
        have hc : c ≠ 48 := fun e => h3.2.2 ⟨by simp; omega, by rw [e]; rfl⟩
        have hd : digB c = true := by simp only [List.all_cons, Bool.and_eq_true] at h1; exact h1.1
        have hc2 : 1 ≤ c.toNat - 48 := by
          unfold digB at hd; rw [decide_eq_true_eq] at hd
          have : c.toNat ≠ 48 := fun e => hc (by rw [← UInt8.ofNat_toNat (x := c), e]; rfl)
          omega
        have e : decVal (c :: r) = (0 * 10 + (c.toNat - 48)) * 10 ^ r.length + decVal r := by
          show r.foldl _ (0 * 10 + (c.toNat - 48)) = _
          exact decVal_fold _ _
        have h4 : 10 ^ r.length ≤ n := by
          rw [← h, e]
          have : 1 * 10 ^ r.length ≤ (0 * 10 + (c.toNat - 48)) * 10 ^ r.length := Nat.mul_le_mul_right _ (by omega)
          omega
        by_cases h5 : r.length ≤ 2
        · simp; omega
        · have : 10 ^ 3 ≤ 10 ^ r.length := Nat.pow_le_pow_right (by omega) (by omega)
          omega
  · cases h
theorem before_split {c : UInt8} {s : List UInt8} (h : c ∈ s) : s = s.take (before c s) ++ c :: s.drop (before c s + 1) := by
  induction s with
  | nil => cases h
  | cons b s ih =>
    by_cases hb : b = c
    · subst hb; rw [before_cons_eq]; simp
    · rw [before_cons_ne hb]
      have h2 : c ∈ s := by
        rcases List.mem_cons.1 h with e | e
        · exact absurd e.symm hb
        · exact e
      simp only [List.take_succ_cons, List.drop_succ_cons, List.cons_append]
      congr 1
      exact ih h2
theorem addrGo_word : ∀ (k n : Nat) (s : List UInt8) (m : Nat), 1 ≤ k → addrGo k n s = some m → s.all wordB = true ∧ 1 ≤ s.length ∧ s.length ≤ 4 * k - 1 := by
  intro k
  induction k with
  | zero => intro n s m h; omega
  | succ k ih =>
    intro n s m _ h
    by_cases hd : 46 ∈ s
    · rw [addrGo_yes hd] at h
      cases hb : decL (s.take (before 46 s)) with
      | none => rw [hb] at h; cases h
      | some b =>
        rw [hb] at h
        simp only at h
        split at h
        · rename_i hc
          have h1 := decL_word hb
          have h2 := decL_len3 hb hc.1
          have h3 := ih _ _ _ (by omega) h
          have hs := before_split hd
          have hl := congrArg List.length hs
          rw [List.length_append, List.length_cons] at hl
          refine ⟨?_, by omega, by omega⟩
          rw [hs, List.all_append, List.all_cons, h1.1, h3.1]
          decide
        · cases h
    · rw [addrGo_no hd] at h
      cases hb : decL s with
      | none => rw [hb] at h; cases h
      | some b =>
        rw [hb] at h
        simp only at h
        split at h
        · rename_i hc
          have h1 := decL_word hb
          have h2 := decL_len3 hb hc.1
          exact ⟨h1.1, h1.2.1, by omega⟩
        · cases h
theorem isWord_of {s : List UInt8} (h : s.all wordB = true ∧ 1 ≤ s.length ∧ s.length ≤ 31) : isWordB s = true := by
  unfold isWordB; rw [h.1]; simp; omega
theorem addrL_word {s : List UInt8} (h : (addrL s).isSome = true) : s.all wordB = true ∧ 1 ≤ s.length ∧ s.length ≤ 15 := by
  obtain ⟨m, hm⟩ := Option.isSome_iff_exists.1 h
  exact addrGo_word 4 0 s m (by omega) hm
theorem netL_word {s : List UInt8} (h : (netL s).isSome = true) : s.all wordB = true ∧ 1 ≤ s.length ∧ s.length ≤ 31 := by
  unfold netL at h
  split at h
  · rename_i h47
    cases ha : addrL (s.take (before 47 s)) with
    | none => rw [ha] at h; simp at h
    | some a =>
      cases hb : decL (s.drop (before 47 s + 1)) with
      | none => rw [ha, hb] at h; simp at h
      | some b =>
        have h1 := addrL_word (s := s.take (before 47 s)) (by rw [ha]; rfl)
        have h2 := decL_word hb
        have hs := before_split h47
        have hl := congrArg List.length hs
        rw [List.length_append, List.length_cons] at hl
        refine ⟨?_, by omega, by omega⟩
        rw [hs, List.all_append, List.all_cons, h1.1, h2.1]
        decide
  · cases h
theorem row_words : ∀ q ∈ tableD, isWordB q.name = true ∧ ∀ c ∈ q.cs, isWordB c = true := by decide +kernel
theorem line_words {l : LineD} (h : lineB l = true) : isWordB l.leaf = true ∧ isWordB l.value = true ∧ (l.head ≠ 0 → isWordB l.name = true) := by
  unfold lineB at h
  cases hf : findD l.head l.leaf with
  | none => rw [hf] at h; cases h
  | some r =>
    rw [hf] at h
    simp only [Bool.and_eq_true] at h
    have hm : r ∈ tableD := List.mem_of_find?_eq_some hf
    have hp := List.find?_some hf
    rw [decide_eq_true_eq] at hp
    obtain ⟨h1, h2⟩ := row_words r hm
    refine ⟨by rw [← hp.2]; exact h1, ?_, fun h0 => ?_⟩
    · have hv := h.2
      unfold rightB at hv
      split at hv
      · have := addrL_word hv; exact isWord_of ⟨this.1, this.2.1, by omega⟩
      · split at hv
        · exact isWord_of (netL_word hv)
        · split at hv
          · cases hd : decL l.value with
            | none => rw [hd] at hv; cases hv
            | some n => have := decL_word hd; exact isWord_of ⟨this.1, this.2.1, by omega⟩
          · split at hv
            · exact h2 l.value (by simpa using hv)
            · split at hv
              · rw [Bool.and_eq_true] at hv
                exact hv.2
              · cases hv
    · have hn := h.1
      unfold namedB at hn
      rw [if_neg h0] at hn
      split at hn
      · have := addrL_word hn; exact isWord_of ⟨this.1, this.2.1, by omega⟩
      · split at hn
        · rw [Bool.and_eq_true] at hn
          exact hn.1
        · cases hn

/-! a text is so many words, whatever stands behind it -/
def Lx (t : List UInt8) (ws : List (List UInt8)) : Prop := ∀ r, lexL (t ++ r) = (lexL r).app ws
theorem Lx.app {t1 t2 : List UInt8} {w1 w2 : List (List UInt8)} (h1 : Lx t1 w1) (h2 : Lx t2 w2) : Lx (t1 ++ t2) (w1 ++ w2) := fun r => by
  rw [List.append_assoc, h1, h2, LexR.app_app]
theorem Lx.nil : Lx [] [] := fun r => by rw [LexR.app_nil]; rfl
theorem Lx.blank {c : UInt8} (h : blankB c = true) : Lx [c] [] := fun r => by rw [LexR.app_nil]; exact lexL_blank h
theorem Lx.sign {c : UInt8} (h : signB c = true) : Lx [c] [[c]] := fun r => lexL_sign h
theorem Lx.word {s : List UInt8} (h : isWordB s = true) : Lx (s ++ [32]) [s] := fun r => by
  rw [List.append_assoc, lexL_isWord h ([32] ++ r) (by rw [List.singleton_append]; exact wlen_cons_no (by decide)), List.singleton_append, lexL_blank (by decide)]
theorem Lx.wordEnd {s : List UInt8} (h : isWordB s = true) : Lx (s ++ [59]) [s, [59]] := fun r => by
  rw [List.append_assoc, lexL_isWord h ([59] ++ r) (by rw [List.singleton_append]; exact wlen_cons_no (by decide)), List.singleton_append, lexL_sign (by decide), LexR.app_app]; rfl
theorem Lx.ok {t : List UInt8} {ws : List (List UInt8)} (h : Lx t ws) : lexL t = .ok ws := by
  have := h []
  rw [List.append_nil, lexL_nil] at this
  rw [this]; simp [LexR.app]

def firstT (p : Option LineD) (q : LineD) : List (List UInt8) := match p with
  | some p => if sameC p q = true then [] else [headC q.head, q.name, opnW]
  | none => [headC q.head, q.name, opnW]
def lastT (q : LineD) (n : Option LineD) : List (List UInt8) := match n with
  | some n => if sameC q n = true then [] else [clsW]
  | none => [clsW]
def lineT (q : LineD) : List (List UInt8) := [q.leaf, q.value, endW]
def pieceT (p : Option LineD) (q : LineD) (n : Option LineD) : List (List UInt8) := if q.head = 0 then lineT q else firstT p q ++ lineT q ++ lastT q n
theorem written_lx {q : LineD} (h : lineB q = true) : Lx (writtenC q) (lineT q) := by
  obtain ⟨h1, h2, -⟩ := line_words h
  have e : writtenC q = (q.leaf ++ [32]) ++ ((q.value ++ [59]) ++ [10]) := by unfold writtenC; simp
  rw [e]
  exact (Lx.word h1).app ((Lx.wordEnd h2).app (Lx.blank (by decide)))
theorem head_lx {q : LineD} (h : lineB q = true) (h0 : q.head ≠ 0) : Lx (headC q.head ++ [32] ++ q.name ++ [32, 123, 10]) [headC q.head, q.name, opnW] := by
  obtain ⟨-, -, h3⟩ := line_words h
  have e : headC q.head ++ [32] ++ q.name ++ [32, 123, 10] = (headC q.head ++ [32]) ++ ((q.name ++ [32]) ++ ([123] ++ [10])) := by simp
  have hh : isWordB (headC q.head) = true := by unfold headC; split <;> decide
  rw [e]
  exact (Lx.word hh).app ((Lx.word (h3 h0)).app ((Lx.sign (by decide)).app (Lx.blank (by decide))))
theorem piece_lx {p : Option LineD} {q : LineD} {n : Option LineD} (h : lineB q = true) : Lx (pieceC p q n) (pieceT p q n) := by
  unfold pieceC pieceT
  by_cases h0 : q.head = 0
  · rw [if_pos h0, if_pos h0]; exact written_lx h
  · rw [if_neg h0, if_neg h0]
    refine Lx.app (Lx.app ?_ ?_) ?_
    · cases p with
      | none => exact head_lx h h0
      | some p =>
        unfold firstC firstT
        simp only []
        by_cases e : sameC p q = true
        · rw [if_pos e, if_pos e]; exact Lx.nil
        · rw [if_neg e, if_neg e]; exact head_lx h h0
    · have := ((Lx.blank (c := 32) (by decide)).app (Lx.blank (c := 32) (by decide))).app (written_lx h)
      simpa using this
    · have hc : Lx [125, 10] [clsW] := (Lx.sign (c := 125) (by decide)).app (Lx.blank (c := 10) (by decide))
      cases n with
      | none => exact hc
      | some n =>
        unfold lastC lastT
        simp only []
        by_cases e : sameC q n = true
        · rw [if_pos e, if_pos e]; exact Lx.nil
        · rw [if_neg e, if_neg e]; exact hc
def textT (ls : List LineD) : Nat → List (List UInt8)
  | 0 => []
  | k + 1 => textT ls k ++ (match ls[k]? with | some q => pieceT (prevOf ls k) q (ls[k + 1]?) | none => [])
theorem text_lx {ls : List LineD} (h : ∀ q ∈ ls, lineB q = true) : ∀ k, Lx (textK ls k) (textT ls k) := by
  intro k
  induction k with
  | zero => exact Lx.nil
  | succ k ih =>
    unfold textK textT
    refine ih.app ?_
    cases hq : ls[k]? with
    | none => exact Lx.nil
    | some q => exact piece_lx (h q (List.mem_of_getElem? hq))
end Go.Proofs.YtljfeefhlbgopaaDoor
/- The words of a configuration's text set its lines; in whatever order they are set: plain. -/
set_option linter.unusedVariables false
set_option linter.unusedSimpArgs false
namespace Go.Proofs.YtljfeefhlbgopaaDoor
open Go.RowKit

def openAt (ls : List LineD) (k : Nat) : Option (Int × List UInt8) := match prevOf ls k, ls[k]? with
  | some p, some q => if p.head ≠ 0 ∧ sameC p q = true then some (p.head, p.name) else none
  | _, _ => none
theorem sameC_iff {a b : LineD} : sameC a b = true ↔ a.head = b.head ∧ a.name = b.name := by unfold sameC; simp
theorem headD_headC {h : Int} (hh : h = 1 ∨ h = 2) : headD (headC h) = h := by rcases hh with rfl | rfl <;> decide
theorem leaf_top {q : LineD} (h : lineB q = true) (h0 : q.head = 0) : q.name = [] ∧ headD q.leaf = 0 := by
  have hn : q.name = [] := by
    have := h
    rw [lineB_split, Bool.and_eq_true] at this
    have h1 := this.1
    rw [h0] at h1
    unfold namedB at h1
    rw [if_pos rfl] at h1
    simpa using h1
  refine ⟨hn, ?_⟩
  by_cases hd : headD q.leaf = 0
  · exact hd
  · have := top_nohead (v := q.value) hd
    unfold atL at this
    have e : q = ⟨0, [], q.leaf, q.value⟩ := by rw [← h0, ← hn]
    rw [e] at h
    simp only at this h
    rw [this] at h; cases h
theorem leaf_sign {q : LineD} (h : lineB q = true) : q.leaf ≠ clsW := fun e => by
  rw [lineB_split, Bool.and_eq_true] at h
  have := rightV_leaf h.2
  rw [e] at this; revert this; decide
theorem line_right {q : LineD} (h : lineB q = true) : namedB q.head q.name = true ∧ rightV q.head q.leaf q.value = true := by
  rw [lineB_split, Bool.and_eq_true] at h; exact h
theorem prev_next {ls : List LineD} {k : Nat} {q : LineD} (hq : ls[k]? = some q) : prevOf ls (k + 1) = some q := hq
theorem lineT_in {h : Int} {n : List UInt8} {q : LineD} (hB : lineB q = true) (h1 : q.head = h) (h2 : q.name = n) (r : List (List UInt8)) (s : StP) : textD (some (h, n)) (lineT q ++ r) s = textD (some (h, n)) r (putS s q) := by
  subst h1; subst h2
  have e : atL (some (q.head, q.name)) q.leaf q.value = q := rfl
  have := textD_line (o := some (q.head, q.name)) (a := q.leaf) (b := q.value) (r := r) (s := s) (fun _ => leaf_sign hB) (fun p hp => by injection hp with hp; rw [← hp]; exact (line_right hB).1) (fun hp => by cases hp) (line_right hB).2
  rw [e] at this
  exact this
theorem piece_step {ls : List LineD} {k : Nat} {q : LineD} (hq : ls[k]? = some q) (hB : lineB q = true) (r : List (List UInt8)) (s : StP) :
    textD (openAt ls k) (pieceT (prevOf ls k) q (ls[k + 1]?) ++ r) s = textD (openAt ls (k + 1)) r (putS s q) := by
  unfold pieceT
  by_cases h0 : q.head = 0
  · have ho : openAt ls k = none := by
      unfold openAt
      rw [hq]
      cases prevOf ls k with
      | none => rfl
      | some p =>
        simp only []
        rw [if_neg (fun e => e.1 (by rw [(sameC_iff.1 e.2).1]; exact h0))]
    have ho2 : openAt ls (k + 1) = none := by
      unfold openAt
      rw [prev_next hq]
      cases ls[k + 1]? with
      | none => rfl
      | some n => simp only []; rw [if_neg (fun e => e.1 h0)]
    rw [if_pos h0, ho, ho2]
    obtain ⟨hn, hd⟩ := leaf_top hB h0
    have e : atL none q.leaf q.value = q := by
      unfold atL
      cases q
      simp only at h0 hn ⊢
      rw [h0, hn]
    have := textD_line (o := none) (a := q.leaf) (b := q.value) (r := r) (s := s) (fun h => by cases h) (fun p hp => by cases hp) (fun _ => hd) (by rw [e]; exact (line_right hB).2)
    rw [e] at this
    exact this
  · rw [if_neg h0, List.append_assoc, List.append_assoc]
    have h12 : q.head = 1 ∨ q.head = 2 := by
      rcases line_head hB with h | h | h
      · exact absurd h h0
      · exact .inl h
      · exact .inr h
    have hfirst : ∀ r2, textD (openAt ls k) (firstT (prevOf ls k) q ++ r2) s = textD (some (q.head, q.name)) r2 s := fun r2 => by
      have hnew : textD none ([headC q.head, q.name, opnW] ++ r2) s = textD (some (q.head, q.name)) r2 s := by
        have := textD_block (a := headC q.head) (b := q.name) (r := r2) (s := s) (by rw [headD_headC h12]; exact h0) (by rw [headD_headC h12]; exact (line_right hB).1)
        rw [headD_headC h12] at this
        exact this
      unfold openAt firstT
      rw [hq]
      cases prevOf ls k with
      | none => exact hnew
      | some p =>
        simp only []
        by_cases e : sameC p q = true
        · have e2 := sameC_iff.1 e
          rw [if_pos ⟨by rw [e2.1]; exact h0, e⟩, if_pos e, e2.1, e2.2]; rfl
        · rw [if_neg (fun h => e h.2), if_neg e]; exact hnew
    rw [hfirst, lineT_in hB rfl rfl]
    unfold openAt lastT
    rw [prev_next hq]
    cases ls[k + 1]? with
    | none => exact textD_close _ _ _
    | some n =>
      simp only []
      by_cases e : sameC q n = true
      · rw [if_pos e, if_pos ⟨h0, e⟩]; rfl
      · rw [if_neg e, if_neg (fun h => e h.2)]; exact textD_close _ _ _
theorem text_step {ls : List LineD} (h : ∀ q ∈ ls, lineB q = true) : ∀ (k : Nat), k ≤ ls.length → ∀ (r : List (List UInt8)) (s : StP), textD none (textT ls k ++ r) s = textD (openAt ls k) r ((ls.take k).foldl putS s) := by
  intro k
  induction k with
  | zero =>
    intro _ r s
    have : openAt ls 0 = none := rfl
    rw [this]; rfl
  | succ k ih =>
    intro hk r s
    obtain ⟨q, hq⟩ : ∃ q, ls[k]? = some q := ⟨_, List.getElem?_eq_getElem (by omega)⟩
    have e : textT ls (k + 1) = textT ls k ++ pieceT (prevOf ls k) q (ls[k + 1]?) := by rw [textT, hq]
    rw [e, List.append_assoc, ih (by omega), piece_step hq (h q (List.mem_of_getElem? hq)), List.take_add_one, hq]
    simp
theorem text_whole {ls : List LineD} (h : ∀ q ∈ ls, lineB q = true) (r : List (List UInt8)) (s : StP) : textD none (textT ls ls.length ++ r) s = textD none r (ls.foldl putS s) := by
  rw [text_step h ls.length (Nat.le_refl _), List.take_length]
  have : openAt ls ls.length = none := by
    unfold openAt
    rw [List.getElem?_eq_none (Nat.le_refl _)]
    cases prevOf ls ls.length <;> rfl
  rw [this]

/-! lines of unlike keys, set in whatever order -/
def unlike (a b : LineD) : Prop := lessB a b = true ∨ lessB b a = true
theorem unlike_symm {a b : LineD} (h : unlike a b) : unlike b a := h.symm
theorem setC_new {x : LineD} : ∀ {C : List LineD}, (∀ q ∈ C, unlike q x) → (setC x C).length = C.length + 1 ∧ ∀ y, y ∈ setC x C ↔ y = x ∨ y ∈ C := by
  intro C
  induction C with
  | nil =>
    intro _
    have e : setC x [] = [x] := rfl
    rw [e]; simp
  | cons q C ih =>
    intro h
    cases hq : lessB q x with
    | true =>
      rw [setC_ahead hq]
      obtain ⟨h1, h2⟩ := ih (fun b hb => h b (List.mem_cons_of_mem _ hb))
      refine ⟨by simp [h1], fun y => ?_⟩
      rw [List.mem_cons, h2, List.mem_cons]
      constructor
      · rintro (h | h | h)
        · exact .inr (.inl h)
        · exact .inl h
        · exact .inr (.inr h)
      · rintro (h | h | h)
        · exact .inr (.inl h)
        · exact .inl h
        · exact .inr (.inr h)
    | false =>
      have hx : lessB x q = true := by
        rcases h q (List.mem_cons_self ..) with e | e
        · rw [hq] at e; cases e
        · exact e
      rw [setC_here hq hx]
      exact ⟨by simp, fun y => by rw [List.mem_cons]⟩
theorem less_irr (a : LineD) : lessB a a = false := by
  cases h : lessB a a with
  | false => rfl
  | true => have := less_asymm h; rw [h] at this; cases this
/-- two rows that rise, of the same lines, are one -/
theorem rises_ext : ∀ {a b : List LineD}, rises a → rises b → (∀ x, x ∈ a ↔ x ∈ b) → a = b := by
  intro a
  induction a with
  | nil =>
    intro b _ _ h
    cases b with
    | nil => rfl
    | cons y b => have := (h y).2 (List.mem_cons_self ..); cases this
  | cons x a ih =>
    intro b ha hb h
    cases b with
    | nil => have := (h x).1 (List.mem_cons_self ..); cases this
    | cons y b =>
      have hxy : x = y := by
        rcases List.mem_cons.1 ((h x).1 (List.mem_cons_self ..)) with e | e
        · exact e
        · have h1 := rises_head hb x e
          rcases List.mem_cons.1 ((h y).2 (List.mem_cons_self ..)) with e2 | e2
          · exact e2.symm
          · have h2 := rises_head ha y e2
            have := less_asymm h1
            rw [h2] at this; cases this
      subst hxy
      congr 1
      refine ih (rises_tail ha) (rises_tail hb) (fun z => ?_)
      constructor
      · intro hz
        rcases List.mem_cons.1 ((h z).1 (List.mem_cons_of_mem _ hz)) with e | e
        · subst e
          have := rises_head ha z hz
          rw [less_irr] at this; cases this
        · exact e
      · intro hz
        rcases List.mem_cons.1 ((h z).2 (List.mem_cons_of_mem _ hz)) with e | e
        · subst e
          have := rises_head hb z hz
          rw [less_irr] at this; cases this
        · exact e
theorem fold_new : ∀ (l C : List LineD), rises C → (∀ x ∈ l, ∀ q ∈ C, unlike q x) → l.Pairwise unlike → C.length + l.length ≤ 64 →
    ∃ D, l.foldl putS (C, false) = (D, false) ∧ rises D ∧ ∀ y, y ∈ D ↔ y ∈ C ∨ y ∈ l := by
  intro l
  induction l with
  | nil => intro C hC _ _ _; exact ⟨C, rfl, hC, fun y => by simp⟩
  | cons x l ih =>
    intro C hC hu hp hlen
    rw [List.pairwise_cons] at hp
    simp only [List.length_cons] at hlen
    obtain ⟨h1, h2⟩ := setC_new (x := x) (C := C) (hu x (List.mem_cons_self ..))
    have hput : putS (C, false) x = (setC x C, false) := by unfold putS; rw [if_neg (by simp), if_pos (by rw [h1]; omega)]
    rw [List.foldl_cons, hput]
    obtain ⟨D, hD, hr, hm⟩ := ih (setC x C) (rises_setC hC) (fun z hz q hq => by
      rcases (h2 q).1 hq with e | e
      · subst e; exact hp.1 z hz
      · exact hu z (List.mem_cons_of_mem _ hz) q e) hp.2 (by rw [h1]; omega)
    refine ⟨D, hD, hr, fun y => ?_⟩
    rw [hm, h2, List.mem_cons]
    constructor
    · rintro ((h | h) | h)
      · exact .inr (.inl h)
      · exact .inl h
      · exact .inr (.inr h)
    · rintro (h | h | h)
      · exact .inl (.inr h)
      · exact .inl (.inl h)
      · exact .inr h
theorem rises_pairwise : ∀ {ls : List LineD}, rises ls → ls.Pairwise unlike := by
  intro ls
  induction ls with
  | nil => intro _; exact List.Pairwise.nil
  | cons a ls ih => intro h; exact List.pairwise_cons.2 ⟨fun b hb => .inl (rises_head h b hb), ih (rises_tail h)⟩
/-- the lines of a configuration, set in whatever order, are it -/
theorem fold_perm {ls l : List LineD} (hr : rightC ls = true) (hp : l.Perm ls) : l.foldl putS ([], false) = (ls, false) := by
  have h1 := right_rises hr
  obtain ⟨D, hD, hrD, hm⟩ := fold_new l [] trivial (fun x _ q hq => by cases hq) ((hp.pairwise_iff (fun h => unlike_symm h)).2 (rises_pairwise h1)) (by rw [hp.length_eq]; have := right_len hr; simpa using this)
  rw [hD, rises_ext hrD h1 (fun x => by rw [hm, hp.mem_iff]; simp)]
end Go.Proofs.YtljfeefhlbgopaaDoor
