/- parse.Text, walked. -/
import Derived.Test.YtljfeefhlbgopaaDoorU11
import Derived.Laws.StructEq
import Derived.Test.YtljfeefhlbgopaaDoorU07
import Derived.Test.YtljfeefhlbgopaaDoorU10
set_option linter.unusedVariables false
set_option linter.unusedSimpArgs false
set_option linter.unusedVariables false
set_option linter.unusedSimpArgs false
namespace Go.Proofs.YtljfeefhlbgopaaDoor
open Go.RowKit

def TextRes (r : List LineD × Nat) (w : World) (e : Ending) (w' : World) : Prop :=
  ∃ p c, e = .returned (.tuple #[.slice p r.1.length c, .int .i64 (r.2 : Int)]) ∧ RowsAt 4 lineVals w' (.slice p r.1.length c) r.1 ∧ Keeps (fun _ => False) w w'
theorem OwnStrs.c {w0 w : World} {v : Value} {xs : List (List UInt8)} (h : OwnStrs w0 w v xs) : StrsC w v xs := by
  obtain ⟨p, c, rfl⟩ := h.slice
  obtain ⟨p2, c2, e2, hr⟩ := h.at
  injection e2 with e21 e22 e23
  subst e21; subst e23
  rcases h.1.2 with ⟨e, h2⟩ | ⟨g, cap, cur, he, _, _, hle, _⟩
  · injection e with e1 e3 e4
    exact ⟨p, c, rfl, by omega, hr⟩
  · injection he with e1 e3 e4
    exact ⟨p, c, rfl, by omega, hr⟩
theorem ansT_bad {t : List UInt8} {m : Nat} (h : lexL t = .bad m) : ansT t = ([], 3) := by unfold ansT; rw [h]
theorem ansT_none {t : List UInt8} {ws : List (List UInt8)} (h : lexL t = .ok ws) (hd : textD none ws ([], false) = none) : ansT t = ([], 3) := by unfold ansT; rw [h]; simp only [hd]
theorem ansT_full {t : List UInt8} {ws : List (List UInt8)} {C : List LineD} (h : lexL t = .ok ws) (hd : textD none ws ([], false) = some (C, true)) : ansT t = ([], 5) := by unfold ansT; rw [h]; simp only [hd]; rfl
theorem ansT_ok {t : List UInt8} {ws : List (List UInt8)} {C : List LineD} (h : lexL t = .ok ws) (hd : textD none ws ([], false) = some (C, false)) : ansT t = (C, 0) := by unfold ansT; rw [h]; simp only [hd]; rfl

set_option maxRecDepth 100000 in
set_option maxHeartbeats 8000000 in
theorem pText_any (s : ByteArray) (w : World) (hs : s.size ≤ 1000000) : Calls Tryd.prog 5 #[.string s] w (TextRes (ansT s.data.toList) w) := by
  cases hL : lexL s.data.toList with
  | bad m =>
    have hans := Lib.hid (ansT_bad hL)
    have hL' := Lib.hid hL
    clear hL
    go_enter Tryd.func5, Tryd.ntmps5
    go_wp2_with fail
    refine (words_bad s m _ (by omega) hL').mono ?_
    rintro e w1 ⟨⟨p, c, n, rfl⟩, k1⟩
    have hk1 := Lib.hid k1
    clear k1 hL'
    go_wp2_with fail
    go_ret2
    rw [hans.out]
    exact ⟨none, 0, rfl, RowsAt.nil _, hk1.out⟩
  | ok ws =>
    have hbd := lexL_bounds hL
    have hsm : Hid (∀ x ∈ ws, x.length ≤ 1000000) := Lib.hid (fun x hx => by have := hbd.2 x hx; have h2 : s.data.toList.length = s.size := rfl; omega)
    have hL' := Lib.hid hL
    clear hL hbd
    go_enter Tryd.func5, Tryd.ntmps5
    go_wp2_with fail
    refine (words_ok s ws _ (by omega) hL').mono ?_
    rintro e w1 ⟨p, c, rfl, hO1, k1⟩
    have hk1 := Lib.hid k1
    have hS0 : Hid (RdS w1.heap.size w1 (w1.alloc (.cells #[.slice p ws.length c, .slice none 0 0, .bool false] 45)) p none c 0 ws ([], false)) := Lib.hid
      ⟨BlkAt.new _ _ _, hO1.c, RowsAt.nil _, fun k e => by simp [Value.ownBlock] at e, by decide +kernel, hsm.out, (Keeps.refl _ _).alloc _, Nat.le_refl _⟩
    clear k1 hO1 hsm
    go_upto_region 5 with fail
    generalize w1.alloc (.cells #[.slice p ws.length c, .slice none 0 0, .bool false] 45) = W2 at hS0 ⊢
    generalize w1.heap.size = gr at hS0 ⊢
    go_loopw [] (fun wr => ∃ (q pd : Option Addr) (d dd : Nat) (vs : List (List UInt8)) (s2 : StP), Hid (textD none ws ([], false) = textD none vs s2) ∧ Hid (RdS gr w1 wr q pd d dd vs s2)) (fun wr => wordsLeft gr wr)
    case atStart => exact ⟨p, none, c, 0, ws, ([], false), Lib.hid rfl, hS0⟩
    case round =>
      obtain ⟨q, pd, d, dd, vs, ⟨C2, f2⟩, htx, hSr⟩ := hrel
      have b0 := hSr.out.blk.cell 0 _ rfl
      try simp only at b0
      have hleft := Lib.hid hSr.out.left
      have hkw := Lib.hid (hk1.out.trans hSr.out.k)
      cases vs with
      | nil =>
        simp only [List.length_nil] at b0
        have b1 := hSr.out.blk.cell 1 _ rfl
        have b2 := hSr.out.blk.cell 2 _ rfl
        try simp only at b1 b2
        have hR := Lib.hid hSr.out.rows
        cases f2 with
        | true =>
          have hans := Lib.hid (ansT_full hL'.out (htx.out.trans (textD_nil _)))
          go_wp2_with fail
          go_ret2
          rw [hans.out]
          exact ⟨none, 0, rfl, RowsAt.nil _, hkw.out⟩
        | false =>
          have hans := Lib.hid (ansT_ok hL'.out (htx.out.trans (textD_nil _)))
          go_wp2_with fail
          go_ret2
          rw [hans.out]
          exact ⟨_, _, rfl, hR.out, hkw.out⟩
      | cons x us =>
        simp only [List.length_cons] at b0
        have n1 : (0 : Int) < (us.length : Int) + 1 := by omega
        go_wp2_with fail
        refine (pPart_any gr w1 _ _ _ _ (x :: us) (C2, f2) _ hSr (by simp)).mono ?_
        rintro e w5 ⟨z, rfl, k5, hf5, ht5⟩
        cases z with
        | false =>
          have hans := Lib.hid (ansT_none hL'.out (htx.out.trans (hf5 rfl)))
          have hk := Lib.hid (hk1.out.trans k5)
          clear k5 hf5 ht5
          go_wp2_with fail
          go_ret2
          rw [hans.out]
          exact ⟨none, 0, rfl, RowsAt.nil _, hk.out⟩
        | true =>
          obtain ⟨vs2, s3, hte, hvl2, qa, qb, da, db, hS6⟩ := ht5 rfl
          have hte2 := Lib.hid (htx.out.trans hte)
          have hS6' := Lib.hid hS6
          have hmeas : Hid (wordsLeft gr w5 < wordsLeft gr wr) := Lib.hid (by rw [hS6.left, hleft.out]; exact hvl2)
          clear k5 hf5 ht5 hte hS6
          go_wp2_with fail
          exact ⟨⟨_, _, _, _, vs2, s3, hte2, hS6'⟩, hmeas.out⟩
end Go.Proofs.YtljfeefhlbgopaaDoor
/- sign, head of the document; reads: walked (gen_ztb.py: parts of ZRG, ZRH, for a seat without Write). -/
set_option linter.unusedVariables false
set_option linter.unusedSimpArgs false
namespace Go.Proofs.YtljfeefhlbgopaaDoor
open Go.RowKit

theorem sign_any (s : ByteArray) (r : Bool) (w : World) (hr : Hid (signW s.data.toList = r)) :
    Calls Tryd.prog 17 #[.string s] w fun e w' => e = .returned (.bool r) ∧ w = w' := by
  have hq := hr.out
  unfold signW at hq
  by_cases h1 : s.data.toList = [123]
  · have e1 : (s.toList == [123]) = true := by rw [Lib.toList_data, h1]; rfl
    rw [h1] at hq
    subst hq; clear hr h1
    go_enter Tryd.func17, Tryd.ntmps17
    go_wp2
    go_ret
    exact ⟨rfl, rfl⟩
  · have e1 : (s.toList == [123]) = false := by rw [Lib.toList_data]; simpa using h1
    have g1 : (s.data.toList == [123]) = false := by simpa using h1
    rw [g1] at hq
    by_cases h2 : s.data.toList = [125]
    · have e2 : (s.toList == [125]) = true := by rw [Lib.toList_data, h2]; rfl
      rw [h2] at hq
      subst hq; clear hr h1 h2 g1
      go_enter Tryd.func17, Tryd.ntmps17
      go_wp2
      go_ret
      exact ⟨rfl, rfl⟩
    · have e2 : (s.toList == [125]) = false := by rw [Lib.toList_data]; simpa using h2
      have g2 : (s.data.toList == [125]) = false := by simpa using h2
      rw [g2] at hq
      by_cases h3 : s.data.toList = [59]
      · have e3 : (s.toList == [59]) = true := by rw [Lib.toList_data, h3]; rfl
        rw [h3] at hq
        subst hq; clear hr h1 h2 h3 g1 g2
        go_enter Tryd.func17, Tryd.ntmps17
        go_wp2
        go_ret
        exact ⟨rfl, rfl⟩
      · have e3 : (s.toList == [59]) = false := by rw [Lib.toList_data]; simpa using h3
        have g3 : (s.data.toList == [59]) = false := by simpa using h3
        rw [g3] at hq
        obtain rfl : r = false := hq.symm
        clear hr h1 h2 h3 g1 g2 g3 hq
        go_enter Tryd.func17, Tryd.ntmps17
        go_wp2
        go_ret
        exact ⟨rfl, rfl⟩
theorem rHead_any (s : ByteArray) (r : Int) (w : World) (hr : Hid (headD s.data.toList = r)) :
    Calls Tryd.prog 15 #[.string s] w fun e w' => e = .returned (.int .i64 r) ∧ w = w' := by
  have hq := hr.out
  unfold headD at hq
  by_cases h1 : s.data.toList = areaW
  · rw [if_pos h1] at hq
    have e1 : (s.toList == [97, 114, 101, 97]) = true := by rw [Lib.toList_data, h1]; rfl
    subst hq; clear hr h1
    go_enter Tryd.func15, Tryd.ntmps15
    go_wp2
    go_ret
    exact ⟨rfl, rfl⟩
  · rw [if_neg h1] at hq
    have e1 : (s.toList == [97, 114, 101, 97]) = false := by rw [Lib.toList_data]; simpa [areaW] using h1
    by_cases h2 : s.data.toList = faceW
    · rw [if_pos h2] at hq
      have e2 : (s.toList == [105, 110, 116, 101, 114, 102, 97, 99, 101]) = true := by rw [Lib.toList_data, h2]; rfl
      subst hq; clear hr h1 h2
      go_enter Tryd.func15, Tryd.ntmps15
      go_wp2
      go_ret
      exact ⟨rfl, rfl⟩
    · rw [if_neg h2] at hq
      have e2 : (s.toList == [105, 110, 116, 101, 114, 102, 97, 99, 101]) = false := by rw [Lib.toList_data]; simpa [faceW] using h2
      subst hq; clear hr h1 h2
      go_enter Tryd.func15, Tryd.ntmps15
      go_wp2
      go_ret
      exact ⟨rfl, rfl⟩
@[go_sem] theorem guardLine (op : BinOp) (x y : Operand) (xs ys : Array Value) (w : World) : (eqGuard op 52 x y (.agg xs) (.agg ys)).run Tryd.prog w = .ok () w := run_eqGuard_agg w op 52 x y xs ys (by kernel_rfl)
def lawEnd (w : World) (e : Ending) (w' : World) : Prop := e = .returned (.bool true) ∧ Below w.heap.size w w'
theorem lawEnd.mk {w w' : World} (h : Keeps (fun _ => False) w w') : lawEnd w (.returned (.bool true)) w' := ⟨rfl, h.below (Nat.le_refl _) (fun _ h => h.elim)⟩
theorem cut_size (s : ByteArray) (n : Nat) : (s.extract 0 n).size ≤ n := by simp; omega
theorem lex_reads6 : lexL [115, 101, 116, 32, 105, 110, 116, 101, 114, 102, 97, 99, 101, 32, 101, 116, 104, 48, 32, 99, 111, 115, 116, 32, 53] = .ok [[115, 101, 116], [105, 110, 116, 101, 114, 102, 97, 99, 101], [101, 116, 104, 48], [99, 111, 115, 116], [53]] :=
  (lexL_blank (c := 32) (by decide)).symm.trans <| lexL_spaced [[115, 101, 116], [105, 110, 116, 101, 114, 102, 97, 99, 101], [101, 116, 104, 48], [99, 111, 115, 116], [53]] (fun w hw => .inl (by
    simp only [List.mem_cons, List.not_mem_nil, or_false] at hw
    rcases hw with rfl | rfl | rfl | rfl | rfl <;> decide))
theorem read_reads6 : readD [115, 101, 116, 32, 105, 110, 116, 101, 114, 102, 97, 99, 101, 32, 101, 116, 104, 48, 32, 99, 111, 115, 116, 32, 53] = some ⟨1, 2, [101, 116, 104, 48], [99, 111, 115, 116], [53], 0⟩ := by
  unfold readD
  rw [lex_reads6]
  have h1 : verbD [115, 101, 116] = 1 := by decide
  have h2 : pathD [[105, 110, 116, 101, 114, 102, 97, 99, 101], [101, 116, 104, 48], [99, 111, 115, 116]] = some (2, [101, 116, 104, 48], [99, 111, 115, 116]) := by decide +kernel
  have h3 : rightV 2 [99, 111, 115, 116] [53] = true := by decide +kernel
  unfold wordsD cmdD
  simp only [h1]
  unfold settingD
  simp only [List.dropLast, List.getLastD, h2, h3]
  rfl
theorem read_some (s : ByteArray) (c : CmdD) (N L V : ByteArray) (w : World) (ht : Hid (VerbsOk w)) (hs : s.size ≤ 1000000) (h : Hid (readD s.data.toList = some c)) (hN : Hid (N = ⟨c.name.toArray⟩)) (hL : Hid (L = ⟨c.leaf.toArray⟩)) (hV : Hid (V = ⟨c.value.toArray⟩)) :
    Calls Tryd.prog 20 #[.string s] w fun e w' => e = .returned (.tuple #[.agg #[.int .i64 c.what, .int .i64 c.head, .string N, .string L, .string V, .int .i64 c.n], .int .i64 0]) ∧ Keeps (fun _ => False) w w' :=
  (read_any s w ht hs).mono fun e w' h' => by rw [h.out] at h'; rw [hN.out, hL.out, hV.out]; exact h'
set_option maxRecDepth 100000 in
set_option maxHeartbeats 1000000 in
theorem reads6_any (w : World) (ht : Hid (VerbsOk w)) :
    Calls Tryd.prog 7 #[] w fun e w' => e = .returned (.bool true) ∧ Keeps (fun _ => False) w w' := by
  go_enter Tryd.func7, Tryd.ntmps7
  go_wp2_with fail
  refine (read_some _ ⟨1, 2, [101, 116, 104, 48], [99, 111, 115, 116], [53], 0⟩ ⟨#[101, 116, 104, 48]⟩ ⟨#[99, 111, 115, 116]⟩ ⟨#[53]⟩ _ ht (by decide) (Lib.hid read_reads6) (Lib.hid rfl) (Lib.hid rfl) (Lib.hid rfl)).mono ?_
  rintro e w1 ⟨rfl, k1⟩
  have k1' := Lib.hid k1; clear k1
  have c0 := (BlkAt.new w1 54 [.int .i64 1, .int .i64 2, .string ⟨#[101, 116, 104, 48]⟩, .string ⟨#[99, 111, 115, 116]⟩, .string ⟨#[53]⟩, .int .i64 0]).cell 0 _ rfl
  have hr1 : Hid ((w1.alloc (.cells #[.int .i64 1, .int .i64 2, .string ⟨#[101, 116, 104, 48]⟩, .string ⟨#[99, 111, 115, 116]⟩, .string ⟨#[53]⟩, .int .i64 0] 54)).rangeAt w1.heap.size 1 [.int .i64 2, .string ⟨#[101, 116, 104, 48]⟩, .string ⟨#[99, 111, 115, 116]⟩, .string ⟨#[53]⟩]) := Lib.hid (fun j u hu => by
    have := (BlkAt.new w1 54 [.int .i64 1, .int .i64 2, .string ⟨#[101, 116, 104, 48]⟩, .string ⟨#[99, 111, 115, 116]⟩, .string ⟨#[53]⟩, .int .i64 0]).cell (1 + j) u (by rw [Nat.add_comm]; match j, hu with | 0, h => exact h | 1, h => exact h | 2, h => exact h | 3, h => exact h | (k + 4), h => cases h)
    exact this)
  go_wp2_with (first | ((with_reducible refine at_store 1 ?_); refine wpList_store_new rfl 54 (.tmp 1) (.tmp 5) rfl _ #[.int .i64 1, .int .i64 2, .string ⟨#[101, 116, 104, 48]⟩, .string ⟨#[99, 111, 115, 116]⟩, .string ⟨#[53]⟩, .int .i64 0] rfl rfl cmdInfo rfl (cmd_one _ _ _ _ _ _) ?_) | ((with_reducible refine at_slot 16 ?_); refine wpList_load_mid_gd (by rfl) 52 (.tmp 15) rfl w1.heap.size 1 rfl [.int .i64 2, .string ⟨#[101, 116, 104, 48]⟩, .string ⟨#[99, 111, 115, 116]⟩, .string ⟨#[53]⟩] _ hr1.out Tryd.underlying52 rfl lineInfo ?_))
  go_ret
  exact ⟨rfl, k1'.out.alloc _⟩
end Go.Proofs.YtljfeefhlbgopaaDoor
/- The document's Set, of a right configuration and a right line, walked (gen_cgb.py). -/
set_option linter.unusedVariables false
set_option linter.unusedSimpArgs false
namespace Go.Proofs.YtljfeefhlbgopaaDoor
open Go.RowKit

theorem line5All : ∃ i, Tryd.prog.info? 37 = some i ∧ i.zero = some (.agg #[.int .i64 0, .string ⟨#[]⟩, .string ⟨#[]⟩, .string ⟨#[]⟩]) ∧ i.size = 4 ∧ i.bytes = 56 := by
  have h : (Tryd.prog.info? 37).map (fun i => (i.zero, i.size, i.bytes)) = some (some (.agg #[.int .i64 0, .string ⟨#[]⟩, .string ⟨#[]⟩, .string ⟨#[]⟩]), 4, 56) := by kernel_rfl
  obtain ⟨i, hi, e⟩ := Option.map_eq_some_iff.1 h
  injection e with e1 e; injection e with e2 e3
  exact ⟨i, hi, e1, e2, e3⟩
theorem line5InfoG : (Tryd.prog.info? 37).map (·.size) = some 4 := by kernel_rfl
def stK (x : LineD) (ls : List LineD) (k : Nat) : List LineD × Bool := (ls.take k).foldl (stepR x) ([], false)
theorem stK_step {x q : LineD} {ls : List LineD} {k : Nat} (hq : ls[k]? = some q) : stK x ls (k + 1) = stepR x (stK x ls k) q := by
  obtain ⟨hk, e⟩ := List.getElem?_eq_some_iff.1 hq
  unfold stK
  rw [List.take_succ_eq_append_getElem hk, e, List.foldl_append]; rfl
theorem stepR_len (x q : LineD) (s : List LineD × Bool) : (stepR x s q).1.length ≤ s.1.length + 2 := by
  unfold stepR
  simp only
  split <;> split <;> simp
theorem stK_len (x : LineD) (ls : List LineD) : ∀ k, (stK x ls k).1.length ≤ 2 * k := by
  intro k
  induction k with
  | zero => simp [stK]
  | succ k ih =>
    by_cases hk : k < ls.length
    · rw [stK_step (List.getElem?_eq_getElem hk)]
      have := stepR_len x ls[k] (stK x ls k)
      omega
    · have : stK x ls (k + 1) = stK x ls k := by unfold stK; rw [List.take_of_length_le (by omega), List.take_of_length_le (by omega)]
      rw [this]; omega
def RSetPost (zs : List LineD) (w : World) (e : Ending) (w' : World) : Prop :=
  (zs.length ≤ 64 → ∃ p c, e = .returned (.tuple #[.slice p zs.length c, .int .i64 0]) ∧ OwnR 37 4 lineVals w w' (.slice p zs.length c) zs) ∧ (64 < zs.length → e = .returned (.tuple #[.slice none 0 0, .int .i64 5])) ∧ Keeps (fun _ => False) w w'

set_option maxRecDepth 100000 in
set_option maxHeartbeats 8000000 in
theorem rSet_c (v : Value) (ls : List LineD) (h : Int) (N F V : ByteArray) (w : World) (hv : Hid (RowsAt 4 lineVals w v ls)) (hlt : Hid (LinesLt ls 8796093022000)) (hn : N.size ≤ 8796093022000) (hvs : V.size ≤ 8796093022000)
    (hlen : ls.length ≤ 64) (hr : Hid (rightC ls = true)) (hx : Hid (lineB ⟨h, N.data.toList, F.data.toList, V.data.toList⟩ = true)) :
    Calls Tryd.prog 19 #[v, .agg #[.int .i64 h, .string N, .string F, .string V]] w (RSetPost (setC ⟨h, N.data.toList, F.data.toList, V.data.toList⟩ ls) w) := by
  obtain ⟨p, c, rfl⟩ := hv.out.slice
  obtain ⟨i0, hi0, hi1, hi2, hi3⟩ := line5All
  have hLn := Lib.hid hv.out.lines
  have hB : Hid (BlkAt (w.alloc (.cells #[.int .i64 h, .string N, .string F, .string V] 37)) w.heap.size 37 [.int .i64 h, .string N, .string F, .string V]) := Lib.hid (BlkAt.new _ _ _)
  have hK0 : Hid (Keeps (fun _ => False) w (w.alloc (.cells #[.int .i64 h, .string N, .string F, .string V] 37))) := Lib.hid ((Keeps.refl _ _).alloc _)
  go_enter Tryd.func19, Tryd.ntmps19
  go_upto_region 1 with fail
  generalize w.alloc (.cells #[.int .i64 h, .string N, .string F, .string V] 37) = w1 at hB hK0 ⊢
  generalize hgb : w.heap.size = gb at hB ⊢
  clear hgb
  go_wp2_with fail
  refine (rRight_c _ ls true _ (Lib.hid (hLn.out.keep hK0.out (fun _ _ _ f => f))) (by omega) hlt hr).mono ?_
  rintro e w2 ⟨rfl, k2⟩
  have k2' := Lib.hid k2
  clear k2
  have hB2 := Lib.hid (hB.out.keep k2'.out id)
  go_wp2_with ((with_reducible refine at_slot 13 ?_); refine wpList_load_mid_g (by rfl) 37 (.tmp 3) rfl gb 0 rfl [.int .i64 h, .string N, .string F, .string V] _ hB2.out.range Tryd.underlying37 rfl line5InfoG ?_)
  refine (rRightLine_any h N F V true _ hn hvs hx).mono ?_
  rintro e w3 ⟨rfl, k3⟩
  have hB3 := Lib.hid (hB2.out.keep k3 id)
  have hK3 := Lib.hid (hK0.out.trans (k2'.out.trans k3))
  have hv3 := Lib.hid (hv.out.keep hK3.out)
  clear k3 k2' hB hB2 hK0 hLn hlt hx
  obtain ⟨x, hxe⟩ : ∃ x : LineD, x = ⟨h, N.data.toList, F.data.toList, V.data.toList⟩ := ⟨_, rfl⟩
  have hxe' := Lib.hid hxe
  rw [← hxe]
  clear hxe
  go_wp2_with fail
  go_loopw [8, 6, 7] (fun iv ov pv wr => ∃ (k : Nat) (q : Option Addr) (d : Nat), k ≤ ls.length ∧ iv = .int .i64 k ∧ ov = .slice q (stK x ls k).1.length d ∧ pv = .bool (stK x ls k).2 ∧ Hid (OwnR 37 4 lineVals w3 wr ov (stK x ls k).1) ∧ Hid (Keeps (fun _ => False) w3 wr)) (fun iv _ _ _ => ls.length - (intOf iv).toNat)
  case atStart => exact ⟨0, none, 0, by omega, rfl, rfl, rfl, Lib.hid (OwnR.nil _ _ (Nat.le_refl _)), Lib.hid (Keeps.refl _ _)⟩
  case round =>
    obtain ⟨k, qa, d, hk, rfl, rfl, rfl, hO, hK⟩ := hrel
    have hsl := stK_len x ls k
    generalize hst : stK x ls k = st at hO hsl ⊢
    have hst' := Lib.hid hst
    clear hst
    obtain ⟨oL, pb⟩ := st
    simp only at hO hsl ⊢
    by_cases hlk : k < ls.length
    · obtain ⟨g, o, rfl, hrows⟩ := hv3.out.open (by omega)
      obtain ⟨q, hq⟩ : ∃ q, ls[k]? = some q := ⟨_, List.getElem?_eq_getElem hlk⟩
      obtain ⟨Nq, hN⟩ : ∃ N : ByteArray, N = ⟨q.name.toArray⟩ := ⟨_, rfl⟩
      obtain ⟨Fq, hF⟩ : ∃ N : ByteArray, N = ⟨q.leaf.toArray⟩ := ⟨_, rfl⟩
      obtain ⟨Vq, hV⟩ : ∃ N : ByteArray, N = ⟨q.value.toArray⟩ := ⟨_, rfl⟩
      have hrow : Hid (w3.rangeAt g (o + k * 4) [.int .i64 q.head, .string Nq, .string Fq, .string Vq]) := Lib.hid (by rw [hN, hF, hV]; exact hrows k q hq)
      have hqd : Hid (q = ⟨q.head, Nq.data.toList, Fq.data.toList, Vq.data.toList⟩) := Lib.hid (by rw [hN, hF, hV])
      have hstep := Lib.hid (stK_step (x := x) hq)
      rw [hst'.out] at hstep
      have hsl' := Lib.hid hsl
      have m1 : (0 : Int) ≤ (k : Int) := by omega
      have m2 : (k : Int) < (ls.length : Int) := by omega
      clear hrows hN hF hV hq hst' hsl
      obtain ⟨zl, hzl⟩ : ∃ z, lessB ⟨q.head, Nq.data.toList, Fq.data.toList, Vq.data.toList⟩ ⟨h, N.data.toList, F.data.toList, V.data.toList⟩ = z := ⟨_, rfl⟩
      obtain ⟨zx, hzx⟩ : ∃ z, lessB ⟨h, N.data.toList, F.data.toList, V.data.toList⟩ ⟨q.head, Nq.data.toList, Fq.data.toList, Vq.data.toList⟩ = z := ⟨_, rfl⟩
      have el : Hid (lessB q x = zl) := Lib.hid (by rw [hqd.out, hxe'.out]; exact hzl)
      have ex : Hid (lessB x q = zx) := Lib.hid (by rw [hqd.out, hxe'.out]; exact hzx)
      have hzl' := Lib.hid hzl; have hzx' := Lib.hid hzx
      clear hzl hzx
      generalize hWr : wr = W0 at hO hK ⊢
      clear hWr
      cases pb with
      | true =>
        go_upto_region 8 with fail
        refine wp_region_noPanic ?_
        refine wp_region_held_drew (S := (fun W => Keeps (fun _ => False) W0 W)) (by kernel_rfl) (((Keeps.refl _ _).drew)) (fun hHeld => ?_)
        refine tk 0 rfl ?_
        refine tk 1 rfl ?_
        refine tk 2 rfl ?_
        refine tkS 3 rfl ?_
        refine tkS 4 rfl ?_
        refine tkS 5 rfl ?_
        refine tkS 6 rfl ?_
        refine tkS 7 rfl ?_
        refine tkS 8 rfl ?_
        refine tkS 9 rfl ?_
        refine tk 10 rfl ?_
        refine wpAnyH_done (by kernel_rfl) (NoPanic.normal ?_) _
        have hK1 := Lib.hid (hK.out.trans hHeld)
        have hO1 := Lib.hid (hO.out.keep hHeld (fun _ _ f => f))
        clear hHeld
        go_upto_region 10 with fail
        generalize hW1 : W0.drew = W1 at hO1 hK1 ⊢
        clear hW1
        cases zl with
        | true =>
          refine wp_region_noPanic ?_
          refine wp_region_held_drew (S := (fun W => Keeps (fun _ => False) W1 W)) (by kernel_rfl) (((Keeps.refl _ _).drew)) (fun hHeld => ?_)
          refine tk 0 rfl ?_
          refine tk 1 rfl ?_
          refine tk 2 rfl ?_
          refine tkL 3 rfl (yieldsIf_load_mid (by rfl) 37 (.tmp 40) rfl g (o + k * 4) rfl [.int .i64 q.head, .string Nq, .string Fq, .string Vq] _ (fun _ s => (hK1.out.trans s).rangeAt hrow.out id) Tryd.underlying37 rfl line5InfoG) ?_
          refine tkL 4 rfl (yieldsIf_load_mid (by rfl) 37 (.tmp 3) rfl gb 0 rfl [.int .i64 h, .string N, .string F, .string V] _ (fun _ s => (hB3.out.keep (hK1.out.trans s) id).range) Tryd.underlying37 rfl line5InfoG) ?_
          refine stepL 5 rfl (by kernel_rfl) (fun K hK => ?_)
          go_simp
          (refine (rLess_any q.head h Nq Fq Vq N F V _ _ hzl').mono ?_; rintro e wc ⟨rfl, kc⟩; have kc' := Lib.hid kc; clear kc)
          go_wp2_with fail
          refine hK.out _ _ ((hHeld.trans kc'.out)) (fun hHeld => ?_)
          clear hK K
          try simp only [Act.put, sA, sZ, sS]
          refine tk 6 rfl ?_
          refine tkS 7 rfl ?_
          refine tkS 8 rfl ?_
          refine tkS 9 rfl ?_
          refine tkS 10 rfl ?_
          refine tkS 11 rfl ?_
          refine tkS 12 rfl ?_
          refine tk 13 rfl ?_
          refine wpAnyH_done (by kernel_rfl) (NoPanic.normal ?_) _
          have hK2 := Lib.hid (hK1.out.trans hHeld)
          have hO2 := Lib.hid (hO1.out.keep hHeld (fun _ _ f => f))
          clear hHeld
          have hl3 := Lib.hid (show (oL).length ≤ 200 by have := hsl'.out; first | omega | (simp; omega))
          go_wp2_with (first | ((with_reducible refine at_slot 56 ?_); refine wpList_load_mid rfl 37 (.tmp 55) rfl g (o + k * 4) rfl [.int .i64 q.head, .string Nq, .string Fq, .string Vq] _ (hK2.out.rangeAt hrow.out id) Tryd.underlying37 rfl line5InfoG ?_) | ((with_reducible refine at_slot 58 ?_); go_must (refine wpList_append_r rfl (.tmp 52) (.tmp 57) 27 37 rfl i0 _ 56 Tryd.underlying27 hi0 hi1 hi2 hi3 rfl (by decide) (by decide) lineVals_len w3 _ (oL.length) (oL) (by simp) rfl (hO2.out.keep ((Keeps.refl (fun _ => False) _).alloc _) (fun _ _ f => f)) _ rfl ⟨q.head, Nq.data.toList, Fq.data.toList, Vq.data.toList⟩ (cells_new rfl _ _) (lineVals_one _) (by have := hsl'.out; omega) ?_); intro q3 d3 w3x hO3 hg3))
          have hK3 := Lib.hid (OwnR.keeps (hO2.out.keep ((Keeps.refl (fun _ => False) _).alloc _) (fun _ _ f => f)) (hK2.out.alloc _) hg3.out)
          clear hg3
          have hfin := Lib.hid (show stK x ls (k + 1) = (oL ++ [(⟨q.head, Nq.data.toList, Fq.data.toList, Vq.data.toList⟩ : LineD)], true) by rw [hstep.out]; unfold stepR; simp [el.out, ex.out, ← hqd.out, ← hxe'.out])
          skip
          refine ⟨⟨k + 1, q3, d3, by omega, by go_num, by simp [hfin.out], by rw [hfin.out], by rw [hfin.out]; exact hO3, hK3⟩, by simp [intOf]; omega⟩
        | false =>
          cases zx with
          | true =>
            refine wp_region_noPanic ?_
            refine wp_region_held_drew (S := (fun W => Keeps (fun _ => False) W1 W)) (by kernel_rfl) (((Keeps.refl _ _).drew)) (fun hHeld => ?_)
            refine tk 0 rfl ?_
            refine tk 1 rfl ?_
            refine tk 2 rfl ?_
            refine tkL 3 rfl (yieldsIf_load_mid (by rfl) 37 (.tmp 40) rfl g (o + k * 4) rfl [.int .i64 q.head, .string Nq, .string Fq, .string Vq] _ (fun _ s => (hK1.out.trans s).rangeAt hrow.out id) Tryd.underlying37 rfl line5InfoG) ?_
            refine tkL 4 rfl (yieldsIf_load_mid (by rfl) 37 (.tmp 3) rfl gb 0 rfl [.int .i64 h, .string N, .string F, .string V] _ (fun _ s => (hB3.out.keep (hK1.out.trans s) id).range) Tryd.underlying37 rfl line5InfoG) ?_
            refine stepL 5 rfl (by kernel_rfl) (fun K hK => ?_)
            go_simp
            (refine (rLess_any q.head h Nq Fq Vq N F V _ _ hzl').mono ?_; rintro e wc ⟨rfl, kc⟩; have kc' := Lib.hid kc; clear kc)
            go_wp2_with fail
            refine hK.out _ _ ((hHeld.trans kc'.out)) (fun hHeld => ?_)
            clear hK K
            try simp only [Act.put, sA, sZ, sS]
            refine tk 6 rfl ?_
            refine tkL 7 rfl (yieldsIf_load_mid (by rfl) 37 (.tmp 3) rfl gb 0 rfl [.int .i64 h, .string N, .string F, .string V] _ (fun _ s => (hB3.out.keep (hK1.out.trans s) id).range) Tryd.underlying37 rfl line5InfoG) ?_
            refine tk 8 rfl ?_
            refine tk 9 rfl ?_
            refine tk 10 rfl ?_
            refine tkL 11 rfl (yieldsIf_load_mid (by rfl) 37 (.tmp 48) rfl g (o + k * 4) rfl [.int .i64 q.head, .string Nq, .string Fq, .string Vq] _ (fun _ s => (hK1.out.trans s).rangeAt hrow.out id) Tryd.underlying37 rfl line5InfoG) ?_
            refine stepL 12 rfl (by kernel_rfl) (fun K hK => ?_)
            go_simp
            (refine (rLess_any h q.head N F V Nq Fq Vq _ _ hzx').mono ?_; rintro e wc ⟨rfl, kc⟩; have kc' := Lib.hid kc; clear kc)
            go_wp2_with fail
            refine hK.out _ _ ((hHeld.trans kc'.out)) (fun hHeld => ?_)
            clear hK K
            try simp only [Act.put, sA, sZ, sS]
            refine tk 13 rfl ?_
            refine wpAnyH_done (by kernel_rfl) (NoPanic.normal ?_) _
            have hK4 := Lib.hid (hK1.out.trans hHeld)
            have hO4 := Lib.hid (hO1.out.keep hHeld (fun _ _ f => f))
            clear hHeld
            have hl5 := Lib.hid (show (oL).length ≤ 200 by have := hsl'.out; first | omega | (simp; omega))
            go_wp2_with (first | ((with_reducible refine at_slot 56 ?_); refine wpList_load_mid rfl 37 (.tmp 55) rfl g (o + k * 4) rfl [.int .i64 q.head, .string Nq, .string Fq, .string Vq] _ (hK4.out.rangeAt hrow.out id) Tryd.underlying37 rfl line5InfoG ?_) | ((with_reducible refine at_slot 58 ?_); go_must (refine wpList_append_r rfl (.tmp 52) (.tmp 57) 27 37 rfl i0 _ 56 Tryd.underlying27 hi0 hi1 hi2 hi3 rfl (by decide) (by decide) lineVals_len w3 _ (oL.length) (oL) (by simp) rfl (hO4.out.keep ((Keeps.refl (fun _ => False) _).alloc _) (fun _ _ f => f)) _ rfl ⟨q.head, Nq.data.toList, Fq.data.toList, Vq.data.toList⟩ (cells_new rfl _ _) (lineVals_one _) (by have := hsl'.out; omega) ?_); intro q5 d5 w5x hO5 hg5))
            have hK5 := Lib.hid (OwnR.keeps (hO4.out.keep ((Keeps.refl (fun _ => False) _).alloc _) (fun _ _ f => f)) (hK4.out.alloc _) hg5.out)
            clear hg5
            have hfin := Lib.hid (show stK x ls (k + 1) = (oL ++ [(⟨q.head, Nq.data.toList, Fq.data.toList, Vq.data.toList⟩ : LineD)], true) by rw [hstep.out]; unfold stepR; simp [el.out, ex.out, ← hqd.out, ← hxe'.out])
            skip
            refine ⟨⟨k + 1, q5, d5, by omega, by go_num, by simp [hfin.out], by rw [hfin.out], by rw [hfin.out]; exact hO5, hK5⟩, by simp [intOf]; omega⟩
          | false =>
            refine wp_region_noPanic ?_
            refine wp_region_held_drew (S := (fun W => Keeps (fun _ => False) W1 W)) (by kernel_rfl) (((Keeps.refl _ _).drew)) (fun hHeld => ?_)
            refine tk 0 rfl ?_
            refine tk 1 rfl ?_
            refine tk 2 rfl ?_
            refine tkL 3 rfl (yieldsIf_load_mid (by rfl) 37 (.tmp 40) rfl g (o + k * 4) rfl [.int .i64 q.head, .string Nq, .string Fq, .string Vq] _ (fun _ s => (hK1.out.trans s).rangeAt hrow.out id) Tryd.underlying37 rfl line5InfoG) ?_
            refine tkL 4 rfl (yieldsIf_load_mid (by rfl) 37 (.tmp 3) rfl gb 0 rfl [.int .i64 h, .string N, .string F, .string V] _ (fun _ s => (hB3.out.keep (hK1.out.trans s) id).range) Tryd.underlying37 rfl line5InfoG) ?_
            refine stepL 5 rfl (by kernel_rfl) (fun K hK => ?_)
            go_simp
            (refine (rLess_any q.head h Nq Fq Vq N F V _ _ hzl').mono ?_; rintro e wc ⟨rfl, kc⟩; have kc' := Lib.hid kc; clear kc)
            go_wp2_with fail
            refine hK.out _ _ ((hHeld.trans kc'.out)) (fun hHeld => ?_)
            clear hK K
            try simp only [Act.put, sA, sZ, sS]
            refine tk 6 rfl ?_
            refine tkL 7 rfl (yieldsIf_load_mid (by rfl) 37 (.tmp 3) rfl gb 0 rfl [.int .i64 h, .string N, .string F, .string V] _ (fun _ s => (hB3.out.keep (hK1.out.trans s) id).range) Tryd.underlying37 rfl line5InfoG) ?_
            refine tk 8 rfl ?_
            refine tk 9 rfl ?_
            refine tk 10 rfl ?_
            refine tkL 11 rfl (yieldsIf_load_mid (by rfl) 37 (.tmp 48) rfl g (o + k * 4) rfl [.int .i64 q.head, .string Nq, .string Fq, .string Vq] _ (fun _ s => (hK1.out.trans s).rangeAt hrow.out id) Tryd.underlying37 rfl line5InfoG) ?_
            refine stepL 12 rfl (by kernel_rfl) (fun K hK => ?_)
            go_simp
            (refine (rLess_any h q.head N F V Nq Fq Vq _ _ hzx').mono ?_; rintro e wc ⟨rfl, kc⟩; have kc' := Lib.hid kc; clear kc)
            go_wp2_with fail
            refine hK.out _ _ ((hHeld.trans kc'.out)) (fun hHeld => ?_)
            clear hK K
            try simp only [Act.put, sA, sZ, sS]
            refine tk 13 rfl ?_
            refine wpAnyH_done (by kernel_rfl) (NoPanic.normal ?_) _
            have hK6 := Lib.hid (hK1.out.trans hHeld)
            have hO6 := Lib.hid (hO1.out.keep hHeld (fun _ _ f => f))
            clear hHeld
            have hfin := Lib.hid (show stK x ls (k + 1) = (oL, true) by rw [hstep.out]; unfold stepR; simp [el.out, ex.out, ← hqd.out, ← hxe'.out])
            go_wp2_with fail
            refine ⟨⟨k + 1, qa, d, by omega, by go_num, by simp [hfin.out], by rw [hfin.out], by rw [hfin.out]; exact hO6, hK6⟩, by simp [intOf]; omega⟩
      | false =>
        go_upto_region 8 with fail
        cases zl with
        | true =>
          refine wp_region_noPanic ?_
          refine wp_region_held_drew (S := (fun W => Keeps (fun _ => False) W0 W)) (by kernel_rfl) (((Keeps.refl _ _).drew)) (fun hHeld => ?_)
          refine tk 0 rfl ?_
          refine tk 1 rfl ?_
          refine tk 2 rfl ?_
          refine tk 3 rfl ?_
          refine tk 4 rfl ?_
          refine tk 5 rfl ?_
          refine tkL 6 rfl (yieldsIf_load_mid (by rfl) 37 (.tmp 28) rfl g (o + k * 4) rfl [.int .i64 q.head, .string Nq, .string Fq, .string Vq] _ (fun _ s => (hK.out.trans s).rangeAt hrow.out id) Tryd.underlying37 rfl line5InfoG) ?_
          refine tkL 7 rfl (yieldsIf_load_mid (by rfl) 37 (.tmp 3) rfl gb 0 rfl [.int .i64 h, .string N, .string F, .string V] _ (fun _ s => (hB3.out.keep (hK.out.trans s) id).range) Tryd.underlying37 rfl line5InfoG) ?_
          refine stepL 8 rfl (by kernel_rfl) (fun K hK => ?_)
          go_simp
          (refine (rLess_any q.head h Nq Fq Vq N F V _ _ hzl').mono ?_; rintro e wc ⟨rfl, kc⟩; have kc' := Lib.hid kc; clear kc)
          go_wp2_with fail
          refine hK.out _ _ ((hHeld.trans kc'.out)) (fun hHeld => ?_)
          clear hK K
          try simp only [Act.put, sA, sZ, sS]
          refine tk 9 rfl ?_
          refine tk 10 rfl ?_
          refine wpAnyH_done (by kernel_rfl) (NoPanic.normal ?_) _
          have hK7 := Lib.hid (hK.out.trans hHeld)
          have hO7 := Lib.hid (hO.out.keep hHeld (fun _ _ f => f))
          clear hHeld
          go_upto_region 10 with fail
          skip
          refine wp_region_noPanic ?_
          refine wp_region_held_drew (S := (fun W => Keeps (fun _ => False) wc W)) (by kernel_rfl) (((Keeps.refl _ _).drew)) (fun hHeld => ?_)
          refine tk 0 rfl ?_
          refine tk 1 rfl ?_
          refine tk 2 rfl ?_
          refine tkL 3 rfl (yieldsIf_load_mid (by rfl) 37 (.tmp 40) rfl g (o + k * 4) rfl [.int .i64 q.head, .string Nq, .string Fq, .string Vq] _ (fun _ s => (hK7.out.trans s).rangeAt hrow.out id) Tryd.underlying37 rfl line5InfoG) ?_
          refine tkL 4 rfl (yieldsIf_load_mid (by rfl) 37 (.tmp 3) rfl gb 0 rfl [.int .i64 h, .string N, .string F, .string V] _ (fun _ s => (hB3.out.keep (hK7.out.trans s) id).range) Tryd.underlying37 rfl line5InfoG) ?_
          refine stepL 5 rfl (by kernel_rfl) (fun K hK => ?_)
          go_simp
          (refine (rLess_any q.head h Nq Fq Vq N F V _ _ hzl').mono ?_; rintro e wc ⟨rfl, kc⟩; have kc' := Lib.hid kc; clear kc)
          go_wp2_with fail
          refine hK.out _ _ ((hHeld.trans kc'.out)) (fun hHeld => ?_)
          clear hK K
          try simp only [Act.put, sA, sZ, sS]
          refine tk 6 rfl ?_
          refine tkS 7 rfl ?_
          refine tkS 8 rfl ?_
          refine tkS 9 rfl ?_
          refine tkS 10 rfl ?_
          refine tkS 11 rfl ?_
          refine tkS 12 rfl ?_
          refine tk 13 rfl ?_
          refine wpAnyH_done (by kernel_rfl) (NoPanic.normal ?_) _
          have hK8 := Lib.hid (hK7.out.trans hHeld)
          have hO8 := Lib.hid (hO7.out.keep hHeld (fun _ _ f => f))
          clear hHeld
          have hl9 := Lib.hid (show (oL).length ≤ 200 by have := hsl'.out; first | omega | (simp; omega))
          go_wp2_with (first | ((with_reducible refine at_slot 56 ?_); refine wpList_load_mid rfl 37 (.tmp 55) rfl g (o + k * 4) rfl [.int .i64 q.head, .string Nq, .string Fq, .string Vq] _ (hK8.out.rangeAt hrow.out id) Tryd.underlying37 rfl line5InfoG ?_) | ((with_reducible refine at_slot 58 ?_); go_must (refine wpList_append_r rfl (.tmp 52) (.tmp 57) 27 37 rfl i0 _ 56 Tryd.underlying27 hi0 hi1 hi2 hi3 rfl (by decide) (by decide) lineVals_len w3 _ (oL.length) (oL) (by simp) rfl (hO8.out.keep ((Keeps.refl (fun _ => False) _).alloc _) (fun _ _ f => f)) _ rfl ⟨q.head, Nq.data.toList, Fq.data.toList, Vq.data.toList⟩ (cells_new rfl _ _) (lineVals_one _) (by have := hsl'.out; omega) ?_); intro q9 d9 w9x hO9 hg9))
          have hK9 := Lib.hid (OwnR.keeps (hO8.out.keep ((Keeps.refl (fun _ => False) _).alloc _) (fun _ _ f => f)) (hK8.out.alloc _) hg9.out)
          clear hg9
          have hfin := Lib.hid (show stK x ls (k + 1) = (oL ++ [(⟨q.head, Nq.data.toList, Fq.data.toList, Vq.data.toList⟩ : LineD)], false) by rw [hstep.out]; unfold stepR; simp [el.out, ex.out, ← hqd.out, ← hxe'.out])
          skip
          refine ⟨⟨k + 1, q9, d9, by omega, by go_num, by simp [hfin.out], by rw [hfin.out], by rw [hfin.out]; exact hO9, hK9⟩, by simp [intOf]; omega⟩
        | false =>
          refine wp_region_noPanic ?_
          refine wp_region_held_drew (S := (fun W => Keeps (fun _ => False) W0 W)) (by kernel_rfl) (((Keeps.refl _ _).drew)) (fun hHeld => ?_)
          refine tk 0 rfl ?_
          refine tk 1 rfl ?_
          refine tk 2 rfl ?_
          refine tk 3 rfl ?_
          refine tk 4 rfl ?_
          refine tk 5 rfl ?_
          refine tkL 6 rfl (yieldsIf_load_mid (by rfl) 37 (.tmp 28) rfl g (o + k * 4) rfl [.int .i64 q.head, .string Nq, .string Fq, .string Vq] _ (fun _ s => (hK.out.trans s).rangeAt hrow.out id) Tryd.underlying37 rfl line5InfoG) ?_
          refine tkL 7 rfl (yieldsIf_load_mid (by rfl) 37 (.tmp 3) rfl gb 0 rfl [.int .i64 h, .string N, .string F, .string V] _ (fun _ s => (hB3.out.keep (hK.out.trans s) id).range) Tryd.underlying37 rfl line5InfoG) ?_
          refine stepL 8 rfl (by kernel_rfl) (fun K hK => ?_)
          go_simp
          (refine (rLess_any q.head h Nq Fq Vq N F V _ _ hzl').mono ?_; rintro e wc ⟨rfl, kc⟩; have kc' := Lib.hid kc; clear kc)
          go_wp2_with fail
          refine hK.out _ _ ((hHeld.trans kc'.out)) (fun hHeld => ?_)
          clear hK K
          try simp only [Act.put, sA, sZ, sS]
          refine tk 9 rfl ?_
          refine tk 10 rfl ?_
          refine wpAnyH_done (by kernel_rfl) (NoPanic.normal ?_) _
          have hK10 := Lib.hid (hK.out.trans hHeld)
          have hO10 := Lib.hid (hO.out.keep hHeld (fun _ _ f => f))
          clear hHeld
          have hl11 := Lib.hid (show (oL).length ≤ 200 by have := hsl'.out; first | omega | (simp; omega))
          go_upto_region 10 with (first | ((with_reducible refine at_slot 35 ?_); refine wpList_load_mid rfl 37 (.tmp 3) rfl gb 0 rfl [.int .i64 h, .string N, .string F, .string V] _ (hB3.out.keep hK10.out id).range Tryd.underlying37 rfl line5InfoG ?_) | ((with_reducible refine at_slot 37 ?_); go_must (refine wpList_append_r rfl (.tmp 34) (.tmp 36) 27 37 rfl i0 _ 56 Tryd.underlying27 hi0 hi1 hi2 hi3 rfl (by decide) (by decide) lineVals_len w3 _ (oL.length) (oL) (by simp) rfl (hO10.out.keep ((Keeps.refl (fun _ => False) _).alloc _) (fun _ _ f => f)) _ rfl ⟨h, N.data.toList, F.data.toList, V.data.toList⟩ (cells_new rfl _ _) (lineVals_one _) (by have := hsl'.out; omega) ?_); intro q11 d11 w11x hO11 hg11))
          have hK11 := Lib.hid (OwnR.keeps (hO10.out.keep ((Keeps.refl (fun _ => False) _).alloc _) (fun _ _ f => f)) (hK10.out.alloc _) hg11.out)
          clear hg11
          cases zx with
          | true =>
            refine wp_region_noPanic ?_
            refine wp_region_held_drew (S := (fun W => Keeps (fun _ => False) w11x W)) (by kernel_rfl) (((Keeps.refl _ _).drew)) (fun hHeld => ?_)
            refine tk 0 rfl ?_
            refine tk 1 rfl ?_
            refine tk 2 rfl ?_
            refine tkL 3 rfl (yieldsIf_load_mid (by rfl) 37 (.tmp 40) rfl g (o + k * 4) rfl [.int .i64 q.head, .string Nq, .string Fq, .string Vq] _ (fun _ s => (hK11.out.trans s).rangeAt hrow.out id) Tryd.underlying37 rfl line5InfoG) ?_
            refine tkL 4 rfl (yieldsIf_load_mid (by rfl) 37 (.tmp 3) rfl gb 0 rfl [.int .i64 h, .string N, .string F, .string V] _ (fun _ s => (hB3.out.keep (hK11.out.trans s) id).range) Tryd.underlying37 rfl line5InfoG) ?_
            refine stepL 5 rfl (by kernel_rfl) (fun K hK => ?_)
            go_simp
            (refine (rLess_any q.head h Nq Fq Vq N F V _ _ hzl').mono ?_; rintro e wc ⟨rfl, kc⟩; have kc' := Lib.hid kc; clear kc)
            go_wp2_with fail
            refine hK.out _ _ ((hHeld.trans kc'.out)) (fun hHeld => ?_)
            clear hK K
            try simp only [Act.put, sA, sZ, sS]
            refine tk 6 rfl ?_
            refine tkL 7 rfl (yieldsIf_load_mid (by rfl) 37 (.tmp 3) rfl gb 0 rfl [.int .i64 h, .string N, .string F, .string V] _ (fun _ s => (hB3.out.keep (hK11.out.trans s) id).range) Tryd.underlying37 rfl line5InfoG) ?_
            refine tk 8 rfl ?_
            refine tk 9 rfl ?_
            refine tk 10 rfl ?_
            refine tkL 11 rfl (yieldsIf_load_mid (by rfl) 37 (.tmp 48) rfl g (o + k * 4) rfl [.int .i64 q.head, .string Nq, .string Fq, .string Vq] _ (fun _ s => (hK11.out.trans s).rangeAt hrow.out id) Tryd.underlying37 rfl line5InfoG) ?_
            refine stepL 12 rfl (by kernel_rfl) (fun K hK => ?_)
            go_simp
            (refine (rLess_any h q.head N F V Nq Fq Vq _ _ hzx').mono ?_; rintro e wc ⟨rfl, kc⟩; have kc' := Lib.hid kc; clear kc)
            go_wp2_with fail
            refine hK.out _ _ ((hHeld.trans kc'.out)) (fun hHeld => ?_)
            clear hK K
            try simp only [Act.put, sA, sZ, sS]
            refine tk 13 rfl ?_
            refine wpAnyH_done (by kernel_rfl) (NoPanic.normal ?_) _
            have hK12 := Lib.hid (hK11.out.trans hHeld)
            have hO12 := Lib.hid (hO11.out.keep hHeld (fun _ _ f => f))
            clear hHeld
            have hl13 := Lib.hid (show (oL ++ [(⟨h, N.data.toList, F.data.toList, V.data.toList⟩ : LineD)]).length ≤ 200 by have := hsl'.out; first | omega | (simp; omega))
            go_wp2_with (first | ((with_reducible refine at_slot 56 ?_); refine wpList_load_mid rfl 37 (.tmp 55) rfl g (o + k * 4) rfl [.int .i64 q.head, .string Nq, .string Fq, .string Vq] _ (hK12.out.rangeAt hrow.out id) Tryd.underlying37 rfl line5InfoG ?_) | ((with_reducible refine at_slot 58 ?_); go_must (refine wpList_append_r rfl (.tmp 52) (.tmp 57) 27 37 rfl i0 _ 56 Tryd.underlying27 hi0 hi1 hi2 hi3 rfl (by decide) (by decide) lineVals_len w3 _ (oL.length + 1) (oL ++ [(⟨h, N.data.toList, F.data.toList, V.data.toList⟩ : LineD)]) (by simp) rfl (hO12.out.keep ((Keeps.refl (fun _ => False) _).alloc _) (fun _ _ f => f)) _ rfl ⟨q.head, Nq.data.toList, Fq.data.toList, Vq.data.toList⟩ (cells_new rfl _ _) (lineVals_one _) (by have := hsl'.out; omega) ?_); intro q13 d13 w13x hO13 hg13))
            have hK13 := Lib.hid (OwnR.keeps (hO12.out.keep ((Keeps.refl (fun _ => False) _).alloc _) (fun _ _ f => f)) (hK12.out.alloc _) hg13.out)
            clear hg13
            have hfin := Lib.hid (show stK x ls (k + 1) = (oL ++ [(⟨h, N.data.toList, F.data.toList, V.data.toList⟩ : LineD)] ++ [(⟨q.head, Nq.data.toList, Fq.data.toList, Vq.data.toList⟩ : LineD)], true) by rw [hstep.out]; unfold stepR; simp [el.out, ex.out, ← hqd.out, ← hxe'.out])
            skip
            refine ⟨⟨k + 1, q13, d13, by omega, by go_num, by simp [hfin.out], by rw [hfin.out], by rw [hfin.out]; exact hO13, hK13⟩, by simp [intOf]; omega⟩
          | false =>
            refine wp_region_noPanic ?_
            refine wp_region_held_drew (S := (fun W => Keeps (fun _ => False) w11x W)) (by kernel_rfl) (((Keeps.refl _ _).drew)) (fun hHeld => ?_)
            refine tk 0 rfl ?_
            refine tk 1 rfl ?_
            refine tk 2 rfl ?_
            refine tkL 3 rfl (yieldsIf_load_mid (by rfl) 37 (.tmp 40) rfl g (o + k * 4) rfl [.int .i64 q.head, .string Nq, .string Fq, .string Vq] _ (fun _ s => (hK11.out.trans s).rangeAt hrow.out id) Tryd.underlying37 rfl line5InfoG) ?_
            refine tkL 4 rfl (yieldsIf_load_mid (by rfl) 37 (.tmp 3) rfl gb 0 rfl [.int .i64 h, .string N, .string F, .string V] _ (fun _ s => (hB3.out.keep (hK11.out.trans s) id).range) Tryd.underlying37 rfl line5InfoG) ?_
            refine stepL 5 rfl (by kernel_rfl) (fun K hK => ?_)
            go_simp
            (refine (rLess_any q.head h Nq Fq Vq N F V _ _ hzl').mono ?_; rintro e wc ⟨rfl, kc⟩; have kc' := Lib.hid kc; clear kc)
            go_wp2_with fail
            refine hK.out _ _ ((hHeld.trans kc'.out)) (fun hHeld => ?_)
            clear hK K
            try simp only [Act.put, sA, sZ, sS]
            refine tk 6 rfl ?_
            refine tkL 7 rfl (yieldsIf_load_mid (by rfl) 37 (.tmp 3) rfl gb 0 rfl [.int .i64 h, .string N, .string F, .string V] _ (fun _ s => (hB3.out.keep (hK11.out.trans s) id).range) Tryd.underlying37 rfl line5InfoG) ?_
            refine tk 8 rfl ?_
            refine tk 9 rfl ?_
            refine tk 10 rfl ?_
            refine tkL 11 rfl (yieldsIf_load_mid (by rfl) 37 (.tmp 48) rfl g (o + k * 4) rfl [.int .i64 q.head, .string Nq, .string Fq, .string Vq] _ (fun _ s => (hK11.out.trans s).rangeAt hrow.out id) Tryd.underlying37 rfl line5InfoG) ?_
            refine stepL 12 rfl (by kernel_rfl) (fun K hK => ?_)
            go_simp
            (refine (rLess_any h q.head N F V Nq Fq Vq _ _ hzx').mono ?_; rintro e wc ⟨rfl, kc⟩; have kc' := Lib.hid kc; clear kc)
            go_wp2_with fail
            refine hK.out _ _ ((hHeld.trans kc'.out)) (fun hHeld => ?_)
            clear hK K
            try simp only [Act.put, sA, sZ, sS]
            refine tk 13 rfl ?_
            refine wpAnyH_done (by kernel_rfl) (NoPanic.normal ?_) _
            have hK14 := Lib.hid (hK11.out.trans hHeld)
            have hO14 := Lib.hid (hO11.out.keep hHeld (fun _ _ f => f))
            clear hHeld
            have hfin := Lib.hid (show stK x ls (k + 1) = (oL ++ [(⟨h, N.data.toList, F.data.toList, V.data.toList⟩ : LineD)], true) by rw [hstep.out]; unfold stepR; simp [el.out, ex.out, ← hqd.out, ← hxe'.out])
            go_wp2_with fail
            refine ⟨⟨k + 1, q11, d11, by omega, by go_num, by simp [hfin.out], by rw [hfin.out], by rw [hfin.out]; exact hO14, hK14⟩, by simp [intOf]; omega⟩
    · obtain rfl : k = ls.length := by omega
      have hend := set_fold (x := x) hr.out
      have hst2 : stK x ls ls.length = ls.foldl (stepR x) ([], false) := by unfold stK; rw [List.take_length]
      rw [← hst2, hst'.out] at hend
      unfold endR at hend
      simp only at hend
      have hend' := Lib.hid hend
      clear hend hst2 hst' hlk hk
      skip
      cases pb with
      | true =>
        simp only [if_true] at hend'
        have hxx : setC ⟨h, N.data.toList, F.data.toList, V.data.toList⟩ ls = oL := by
          have e := hend'.out
          rw [hxe'.out] at e
          exact e.symm
        have hxx' := Lib.hid hxx
        clear hxx hend'
        by_cases h65 : 64 < oL.length
        · go_wp2_with fail
          go_ret2
          show RSetPost (setC ⟨h, N.data.toList, F.data.toList, V.data.toList⟩ ls) w _ _
          rw [hxx'.out]
          exact ⟨fun hh => absurd h65 (by first | omega | (simp at hh; omega)), fun _ => rfl, hK3.out.trans hK.out⟩
        · go_wp2_with fail
          go_ret2
          show RSetPost (setC ⟨h, N.data.toList, F.data.toList, V.data.toList⟩ ls) w _ _
          rw [hxx'.out]
          exact ⟨fun _ => ⟨qa, d, by simp, by have hh := hO.out.older (w0 := w) hK3.out.size; simpa using hh⟩, fun hh => absurd hh (by first | omega | (simp; omega)), hK3.out.trans hK.out⟩
      | false =>
        simp only [Bool.false_eq_true, if_false] at hend'
        have hsl' := Lib.hid hsl
        skip
        go_upto_region 14 with (first | ((with_reducible refine at_slot 62 ?_); refine wpList_load_mid rfl 37 (.tmp 3) rfl gb 0 rfl [.int .i64 h, .string N, .string F, .string V] _ (hB3.out.keep hK.out id).range Tryd.underlying37 rfl line5InfoG ?_) | ((with_reducible refine at_slot 64 ?_); go_must (refine wpList_append_r rfl (.tmp 61) (.tmp 63) 27 37 rfl i0 _ 56 Tryd.underlying27 hi0 hi1 hi2 hi3 rfl (by decide) (by decide) lineVals_len w3 _ oL.length oL rfl rfl (hO.out.keep ((Keeps.refl (fun _ => False) _).alloc _) (fun _ _ f => f)) _ rfl ⟨h, N.data.toList, F.data.toList, V.data.toList⟩ (cells_new rfl _ _) (lineVals_one _) (by have := hsl'.out; omega) ?_); intro qz dz wz hOz hgz))
        have hKz := Lib.hid (OwnR.keeps (hO.out.keep ((Keeps.refl (fun _ => False) _).alloc _) (fun _ _ f => f)) (hK.out.alloc _) hgz.out)
        clear hgz
        have hxx : setC ⟨h, N.data.toList, F.data.toList, V.data.toList⟩ ls = oL ++ [(⟨h, N.data.toList, F.data.toList, V.data.toList⟩ : LineD)] := by
          have e := hend'.out
          rw [hxe'.out] at e
          exact e.symm
        have hxx' := Lib.hid hxx
        clear hxx hend'
        by_cases h65 : 64 < oL.length + 1
        · go_wp2_with fail
          go_ret2
          show RSetPost (setC ⟨h, N.data.toList, F.data.toList, V.data.toList⟩ ls) w _ _
          rw [hxx'.out]
          exact ⟨fun hh => absurd h65 (by first | omega | (simp at hh; omega)), fun _ => rfl, hK3.out.trans hKz.out⟩
        · go_wp2_with fail
          go_ret2
          show RSetPost (setC ⟨h, N.data.toList, F.data.toList, V.data.toList⟩ ls) w _ _
          rw [hxx'.out]
          exact ⟨fun _ => ⟨qz, dz, by simp, by have hh := hOz.out.older (w0 := w) hK3.out.size; simpa using hh⟩, fun hh => absurd hh (by first | omega | (simp; omega)), hK3.out.trans hKz.out⟩
end Go.Proofs.YtljfeefhlbgopaaDoor
