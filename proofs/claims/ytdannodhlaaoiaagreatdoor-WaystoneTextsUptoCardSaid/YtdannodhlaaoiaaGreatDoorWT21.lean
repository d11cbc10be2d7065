/- parse.Text, walked. -/
import Derived.Test.YtdannodhlaaoiaaGreatDoorWT20
import Derived.Laws.StructEq
set_option linter.unusedVariables false
set_option linter.unusedSimpArgs false
set_option linter.unusedVariables false
set_option linter.unusedSimpArgs false
namespace Go.Proofs.YtdannodhlaaoiaaGreatDoor
open Go.RowKit

def TextRes (r : List LineD × Nat) (w : World) (e : Ending) (w' : World) : Prop :=
  ∃ p c, e = .returned (.tuple #[.slice p r.1.length c, .int .i64 (r.2 : Int)]) ∧ RowsAt 4 lineVals w' (.slice p r.1.length c) r.1 ∧ Keeps (fun _ => False) w w'
theorem OwnStrs.c {w0 w : World} {v : Value} {xs : List (List UInt8)} (h : OwnStrs w0 w v xs) : StrsC w v xs := by
  obtain ⟨p, c, rfl⟩ := h.slice
  obtain ⟨p2, c2, e2, hr⟩ := h.at
  injection e2 with e21 e22 e23
  subst e21; subst e23
  rcases h.1.2 with ⟨e, h2⟩ | ⟨g, cap, cur, he, _, _, hle, _⟩
  · injection e with e1 e3 e4
    exact ⟨p, c, rfl, by omega, hr⟩
  · injection he with e1 e3 e4
    exact ⟨p, c, rfl, by omega, hr⟩
theorem ansT_bad {t : List UInt8} {m : Nat} (h : lexL t = .bad m) : ansT t = ([], 3) := by unfold ansT; rw [h]
theorem ansT_none {t : List UInt8} {ws : List (List UInt8)} (h : lexL t = .ok ws) (hd : textD none ws ([], false) = none) : ansT t = ([], 3) := by unfold ansT; rw [h]; simp only [hd]
theorem ansT_full {t : List UInt8} {ws : List (List UInt8)} {C : List LineD} (h : lexL t = .ok ws) (hd : textD none ws ([], false) = some (C, true)) : ansT t = ([], 5) := by unfold ansT; rw [h]; simp only [hd]; rfl
theorem ansT_ok {t : List UInt8} {ws : List (List UInt8)} {C : List LineD} (h : lexL t = .ok ws) (hd : textD none ws ([], false) = some (C, false)) : ansT t = (C, 0) := by unfold ansT; rw [h]; simp only [hd]; rfl

set_option maxRecDepth 100000 in
set_option maxHeartbeats 8000000 in
theorem pText_any (s : ByteArray) (w : World) (hs : s.size ≤ 1000000) : Calls Tryz.prog 6 #[.string s] w (TextRes (ansT s.data.toList) w) := by
  cases hL : lexL s.data.toList with
  | bad m =>
    have hans := Lib.hid (ansT_bad hL)
    have hL' := Lib.hid hL
    clear hL
    go_enter Tryz.func6, Tryz.ntmps6
    go_wp2_with fail
    refine (words_bad s m _ (by omega) hL').mono ?_
    rintro e w1 ⟨⟨p, c, n, rfl⟩, k1⟩
    have hk1 := Lib.hid k1
    clear k1 hL'
    go_wp2_with fail
    go_ret2
    rw [hans.out]
    exact ⟨none, 0, rfl, RowsAt.nil _, hk1.out⟩
  | ok ws =>
    have hbd := lexL_bounds hL
    have hsm : Hid (∀ x ∈ ws, x.length ≤ 1000000) := Lib.hid (fun x hx => by have := hbd.2 x hx; have h2 : s.data.toList.length = s.size := rfl; omega)
    have hL' := Lib.hid hL
    clear hL hbd
    go_enter Tryz.func6, Tryz.ntmps6
    go_wp2_with fail
    refine (words_ok s ws _ (by omega) hL').mono ?_
    rintro e w1 ⟨p, c, rfl, hO1, k1⟩
    have hk1 := Lib.hid k1
    have hS0 : Hid (RdS w1.heap.size w1 (w1.alloc (.cells #[.slice p ws.length c, .slice none 0 0, .bool false] 70)) p none c 0 ws ([], false)) := Lib.hid
      ⟨BlkAt.new _ _ _, hO1.c, RowsAt.nil _, fun k e => by simp [Value.ownBlock] at e, by decide +kernel, hsm.out, (Keeps.refl _ _).alloc _, Nat.le_refl _⟩
    clear k1 hO1 hsm
    go_upto_region 5 with fail
    generalize w1.alloc (.cells #[.slice p ws.length c, .slice none 0 0, .bool false] 70) = W2 at hS0 ⊢
    generalize w1.heap.size = gr at hS0 ⊢
    go_loopw [] (fun wr => ∃ (q pd : Option Addr) (d dd : Nat) (vs : List (List UInt8)) (s2 : StP), Hid (textD none ws ([], false) = textD none vs s2) ∧ Hid (RdS gr w1 wr q pd d dd vs s2)) (fun wr => wordsLeft gr wr)
    case atStart => exact ⟨p, none, c, 0, ws, ([], false), Lib.hid rfl, hS0⟩
    case round =>
      obtain ⟨q, pd, d, dd, vs, ⟨C2, f2⟩, htx, hSr⟩ := hrel
      have b0 := hSr.out.blk.cell 0 _ rfl
      try simp only at b0
      have hleft := Lib.hid hSr.out.left
      have hkw := Lib.hid (hk1.out.trans hSr.out.k)
      cases vs with
      | nil =>
        simp only [List.length_nil] at b0
        have b1 := hSr.out.blk.cell 1 _ rfl
        have b2 := hSr.out.blk.cell 2 _ rfl
        try simp only at b1 b2
        have hR := Lib.hid hSr.out.rows
        cases f2 with
        | true =>
          have hans := Lib.hid (ansT_full hL'.out (htx.out.trans (textD_nil _)))
          go_wp2_with fail
          go_ret2
          rw [hans.out]
          exact ⟨none, 0, rfl, RowsAt.nil _, hkw.out⟩
        | false =>
          have hans := Lib.hid (ansT_ok hL'.out (htx.out.trans (textD_nil _)))
          go_wp2_with fail
          go_ret2
          rw [hans.out]
          exact ⟨_, _, rfl, hR.out, hkw.out⟩
      | cons x us =>
        simp only [List.length_cons] at b0
        have n1 : (0 : Int) < (us.length : Int) + 1 := by omega
        go_wp2_with fail
        refine (pPart_any gr w1 _ _ _ _ (x :: us) (C2, f2) _ hSr (by simp)).mono ?_
        rintro e w5 ⟨z, rfl, k5, hf5, ht5⟩
        cases z with
        | false =>
          have hans := Lib.hid (ansT_none hL'.out (htx.out.trans (hf5 rfl)))
          have hk := Lib.hid (hk1.out.trans k5)
          clear k5 hf5 ht5
          go_wp2_with fail
          go_ret2
          rw [hans.out]
          exact ⟨none, 0, rfl, RowsAt.nil _, hk.out⟩
        | true =>
          obtain ⟨vs2, s3, hte, hvl2, qa, qb, da, db, hS6⟩ := ht5 rfl
          have hte2 := Lib.hid (htx.out.trans hte)
          have hS6' := Lib.hid hS6
          have hmeas : Hid (wordsLeft gr w5 < wordsLeft gr wr) := Lib.hid (by rw [hS6.left, hleft.out]; exact hvl2)
          clear k5 hf5 ht5 hte hS6
          go_wp2_with fail
          exact ⟨⟨_, _, _, _, vs2, s3, hte2, hS6'⟩, hmeas.out⟩
end Go.Proofs.YtdannodhlaaoiaaGreatDoor
/- sign, head of the document; reads: walked (gen_ztb.py: parts of ZRG, ZRH, for a seat without Write). -/
set_option linter.unusedVariables false
set_option linter.unusedSimpArgs false
namespace Go.Proofs.YtdannodhlaaoiaaGreatDoor
open Go.RowKit

@[go_sem] theorem guardLine (op : BinOp) (x y : Operand) (xs ys : Array Value) (w : World) : (eqGuard op 50 x y (.agg xs) (.agg ys)).run Tryz.prog w = .ok () w := run_eqGuard_agg w op 50 x y xs ys (by kernel_rfl)
def lawEnd (w : World) (e : Ending) (w' : World) : Prop := e = .returned (.bool true) ∧ Below w.heap.size w w'
theorem lawEnd.mk {w w' : World} (h : Keeps (fun _ => False) w w') : lawEnd w (.returned (.bool true)) w' := ⟨rfl, h.below (Nat.le_refl _) (fun _ h => h.elim)⟩
theorem cut_size (s : ByteArray) (n : Nat) : (s.extract 0 n).size ≤ n := by simp; omega
theorem lex_reads6 : lexL [115, 101, 116, 32, 105, 110, 116, 101, 114, 102, 97, 99, 101, 32, 101, 116, 104, 48, 32, 99, 111, 115, 116, 32, 53] = .ok [[115, 101, 116], [105, 110, 116, 101, 114, 102, 97, 99, 101], [101, 116, 104, 48], [99, 111, 115, 116], [53]] :=
  (lexL_blank (c := 32) (by decide)).symm.trans <| lexL_spaced [[115, 101, 116], [105, 110, 116, 101, 114, 102, 97, 99, 101], [101, 116, 104, 48], [99, 111, 115, 116], [53]] (fun w hw => .inl (by
    simp only [List.mem_cons, List.not_mem_nil, or_false] at hw
    rcases hw with rfl | rfl | rfl | rfl | rfl <;> decide))
theorem read_reads6 : readD [115, 101, 116, 32, 105, 110, 116, 101, 114, 102, 97, 99, 101, 32, 101, 116, 104, 48, 32, 99, 111, 115, 116, 32, 53] = some ⟨1, 2, [101, 116, 104, 48], [99, 111, 115, 116], [53], 0⟩ := by
  unfold readD
  rw [lex_reads6]
  have h1 : verbD [115, 101, 116] = 1 := by decide
  have h2 : pathD [[105, 110, 116, 101, 114, 102, 97, 99, 101], [101, 116, 104, 48], [99, 111, 115, 116]] = some (2, [101, 116, 104, 48], [99, 111, 115, 116]) := by decide +kernel
  have h3 : rightV 2 [99, 111, 115, 116] [53] = true := by decide +kernel
  unfold wordsD cmdD
  simp only [h1]
  unfold settingD
  simp only [List.dropLast, List.getLastD, h2, h3]
  rfl
theorem read_some (s : ByteArray) (c : CmdD) (N L V : ByteArray) (w : World) (ht : Hid (VerbsOk w)) (hs : s.size ≤ 1000000) (h : Hid (readD s.data.toList = some c)) (hN : Hid (N = ⟨c.name.toArray⟩)) (hL : Hid (L = ⟨c.leaf.toArray⟩)) (hV : Hid (V = ⟨c.value.toArray⟩)) :
    Calls Tryz.prog 19 #[.string s] w fun e w' => e = .returned (.tuple #[.agg #[.int .i64 c.what, .int .i64 c.head, .string N, .string L, .string V, .int .i64 c.n], .int .i64 0]) ∧ Keeps (fun _ => False) w w' :=
  (read_any s w ht hs).mono fun e w' h' => by rw [h.out] at h'; rw [hN.out, hL.out, hV.out]; exact h'
end Go.Proofs.YtdannodhlaaoiaaGreatDoor
