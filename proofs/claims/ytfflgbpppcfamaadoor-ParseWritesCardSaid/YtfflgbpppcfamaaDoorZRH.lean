/- ParseReads, walked. -/
import Derived.Test.YtfflgbpppcfamaaDoorZRG
import Derived.Laws.StructEq
namespace Go.Proofs.YtfflgbpppcfamaaDoor
open Go.RowKit

@[go_sem] theorem guardCmd (op : BinOp) (x y : Operand) (xs ys : Array Value) (w : World) : (eqGuard op 25 x y (.agg xs) (.agg ys)).run Tryd.prog w = .ok () w := run_eqGuard_agg w op 25 x y xs ys (by kernel_rfl)
@[go_sem] theorem guardCmd6 (op : BinOp) (x y : Operand) (xs ys : Array Value) (w : World) : (eqGuard op 31 x y (.agg xs) (.agg ys)).run Tryd.prog w = .ok () w := run_eqGuard_agg w op 31 x y xs ys (by kernel_rfl)
@[go_sem] theorem guardLine (op : BinOp) (x y : Operand) (xs ys : Array Value) (w : World) : (eqGuard op 23 x y (.agg xs) (.agg ys)).run Tryd.prog w = .ok () w := run_eqGuard_agg w op 23 x y xs ys (by kernel_rfl)
def lawEnd (w : World) (e : Ending) (w' : World) : Prop := e = .returned (.bool true) ∧ Below w.heap.size w w'
theorem lawEnd.mk {w w' : World} (h : Keeps (fun _ => False) w w') : lawEnd w (.returned (.bool true)) w' := ⟨rfl, h.below (Nat.le_refl _) (fun _ h => h.elim)⟩
theorem cut_size (s : ByteArray) (n : Nat) : (s.extract 0 n).size ≤ n := by simp; omega
theorem lex_reads6 : lexL [115, 101, 116, 32, 105, 110, 116, 101, 114, 102, 97, 99, 101, 32, 101, 116, 104, 48, 32, 99, 111, 115, 116, 32, 53] = .ok [[115, 101, 116], [105, 110, 116, 101, 114, 102, 97, 99, 101], [101, 116, 104, 48], [99, 111, 115, 116], [53]] :=
  (lexL_blank (c := 32) (by decide)).symm.trans <| lexL_spaced [[115, 101, 116], [105, 110, 116, 101, 114, 102, 97, 99, 101], [101, 116, 104, 48], [99, 111, 115, 116], [53]] (fun w hw => .inl (by
    simp only [List.mem_cons, List.not_mem_nil, or_false] at hw
    rcases hw with rfl | rfl | rfl | rfl | rfl <;> decide))
theorem read_reads6 : readD [115, 101, 116, 32, 105, 110, 116, 101, 114, 102, 97, 99, 101, 32, 101, 116, 104, 48, 32, 99, 111, 115, 116, 32, 53] = some ⟨1, 2, [101, 116, 104, 48], [99, 111, 115, 116], [53], 0⟩ := by
  unfold readD
  rw [lex_reads6]
  have h1 : verbD [115, 101, 116] = 1 := by decide
  have h2 : pathD [[105, 110, 116, 101, 114, 102, 97, 99, 101], [101, 116, 104, 48], [99, 111, 115, 116]] = some (2, [101, 116, 104, 48], [99, 111, 115, 116]) := by decide +kernel
  have h3 : rightV 2 [99, 111, 115, 116] [53] = true := by decide +kernel
  unfold wordsD cmdD
  simp only [h1]
  unfold settingD
  simp only [List.dropLast, List.getLastD, h2, h3]
  rfl
theorem read_none (s : ByteArray) (w : World) (ht : Hid (VerbsOk w)) (hs : s.size ≤ 1000000) (h : Hid (readD s.data.toList = none)) :
    Calls Tryd.prog 5 #[.string s] w fun e w' => e = .returned (.tuple #[.agg #[.int .i64 0, .int .i64 0, .string ⟨#[]⟩, .string ⟨#[]⟩, .string ⟨#[]⟩, .int .i64 0], .int .i64 3]) ∧ Keeps (fun _ => False) w w' :=
  (read_any s w ht hs).mono fun e w' h' => by rw [h.out] at h'; exact h'
theorem read_some (s : ByteArray) (c : CmdD) (N L V : ByteArray) (w : World) (ht : Hid (VerbsOk w)) (hs : s.size ≤ 1000000) (h : Hid (readD s.data.toList = some c)) (hN : Hid (N = ⟨c.name.toArray⟩)) (hL : Hid (L = ⟨c.leaf.toArray⟩)) (hV : Hid (V = ⟨c.value.toArray⟩)) :
    Calls Tryd.prog 5 #[.string s] w fun e w' => e = .returned (.tuple #[.agg #[.int .i64 c.what, .int .i64 c.head, .string N, .string L, .string V, .int .i64 c.n], .int .i64 0]) ∧ Keeps (fun _ => False) w w' :=
  (read_any s w ht hs).mono fun e w' h' => by rw [h.out] at h'; rw [hN.out, hL.out, hV.out]; exact h'
theorem ba_of {N : ByteArray} {l : List UInt8} (h : N.data.toList = l) : N = ⟨l.toArray⟩ := by subst h; rfl
theorem rRead_none (s : ByteArray) (w : World) (hs : s.size ≤ 1000000) (h : Hid (readD s.data.toList = none)) :
    Calls Tryd.prog 6 #[.string s] w fun e w' => ∃ (a h : Int) (N L V : ByteArray) (n : Int), e = .returned (.tuple #[.agg #[.int .i64 a, .int .i64 h, .string N, .string L, .string V, .int .i64 n], .bool false]) ∧ Keeps (fun _ => False) w w' :=
  (rRead_any s w hs).mono fun e w' h' => by rw [h.out] at h'; obtain ⟨a, h, N, L, V, n, he, hk, _⟩ := h'; exact ⟨a, h, N, L, V, n, he, hk⟩
theorem rRead_some (s : ByteArray) (c : CmdD) (N L V : ByteArray) (w : World) (hs : s.size ≤ 1000000) (h : Hid (readD s.data.toList = some c)) (hN : Hid (N = ⟨c.name.toArray⟩)) (hL : Hid (L = ⟨c.leaf.toArray⟩)) (hV : Hid (V = ⟨c.value.toArray⟩)) :
    Calls Tryd.prog 6 #[.string s] w fun e w' => e = .returned (.tuple #[.agg #[.int .i64 c.what, .int .i64 c.head, .string N, .string L, .string V, .int .i64 c.n], .bool true]) ∧ Keeps (fun _ => False) w w' :=
  (rRead_any s w hs).mono fun e w' h' => by
    rw [h.out] at h'
    obtain ⟨a, h, N2, L2, V2, n, he, hk, hx⟩ := h'
    obtain ⟨e1, e2, e3, e4, e5, e6⟩ := hx c rfl
    refine ⟨?_, hk⟩
    rw [he, hN.out, hL.out, hV.out, ba_of e3, ba_of e4, ba_of e5, e1, e2, e6]; rfl
set_option maxRecDepth 100000 in
set_option maxHeartbeats 1000000 in
theorem reads6_any (w : World) (ht : Hid (VerbsOk w)) :
    Calls Tryd.prog 7 #[] w fun e w' => e = .returned (.bool true) ∧ Keeps (fun _ => False) w w' := by
  go_enter Tryd.func7, Tryd.ntmps7
  go_wp2_with fail
  refine (read_some _ ⟨1, 2, [101, 116, 104, 48], [99, 111, 115, 116], [53], 0⟩ ⟨#[101, 116, 104, 48]⟩ ⟨#[99, 111, 115, 116]⟩ ⟨#[53]⟩ _ ht (by decide) (Lib.hid read_reads6) (Lib.hid rfl) (Lib.hid rfl) (Lib.hid rfl)).mono ?_
  rintro e w1 ⟨rfl, k1⟩
  have k1' := Lib.hid k1; clear k1
  have c0 := (BlkAt.new w1 25 [.int .i64 1, .int .i64 2, .string ⟨#[101, 116, 104, 48]⟩, .string ⟨#[99, 111, 115, 116]⟩, .string ⟨#[53]⟩, .int .i64 0]).cell 0 _ rfl
  have hr1 : Hid ((w1.alloc (.cells #[.int .i64 1, .int .i64 2, .string ⟨#[101, 116, 104, 48]⟩, .string ⟨#[99, 111, 115, 116]⟩, .string ⟨#[53]⟩, .int .i64 0] 25)).rangeAt w1.heap.size 1 [.int .i64 2, .string ⟨#[101, 116, 104, 48]⟩, .string ⟨#[99, 111, 115, 116]⟩, .string ⟨#[53]⟩]) := Lib.hid (fun j u hu => by
    have := (BlkAt.new w1 25 [.int .i64 1, .int .i64 2, .string ⟨#[101, 116, 104, 48]⟩, .string ⟨#[99, 111, 115, 116]⟩, .string ⟨#[53]⟩, .int .i64 0]).cell (1 + j) u (by rw [Nat.add_comm]; match j, hu with | 0, h => exact h | 1, h => exact h | 2, h => exact h | 3, h => exact h | (k + 4), h => cases h)
    exact this)
  go_wp2_with (first | ((with_reducible refine at_store 1 ?_); refine wpList_store_new rfl 25 (.tmp 1) (.tmp 5) rfl _ #[.int .i64 1, .int .i64 2, .string ⟨#[101, 116, 104, 48]⟩, .string ⟨#[99, 111, 115, 116]⟩, .string ⟨#[53]⟩, .int .i64 0] rfl rfl cmdInfo rfl (cmd_one _ _ _ _ _ _) ?_) | ((with_reducible refine at_slot 16 ?_); refine wpList_load_mid_gd (by rfl) 23 (.tmp 15) rfl w1.heap.size 1 rfl [.int .i64 2, .string ⟨#[101, 116, 104, 48]⟩, .string ⟨#[99, 111, 115, 116]⟩, .string ⟨#[53]⟩] _ hr1.out Tryd.underlying23 rfl lineInfo ?_))
  go_ret
  exact ⟨rfl, k1'.out.alloc _⟩
set_option maxRecDepth 100000 in
set_option maxHeartbeats 1000000 in
theorem from6_any (a h : Int) (N L V : ByteArray) (n : Int) (w : World) :
    Calls Tryd.prog 8 #[.agg #[.int .i64 a, .int .i64 h, .string N, .string L, .string V, .int .i64 n]] w fun e w' => e = .returned (.agg #[.int .i64 a, .int .i64 h, .string N, .string L, .string V, .int .i64 n]) ∧ Keeps (fun _ => False) w w' := by
  have hB := (BlkAt.new w 25 [.int .i64 a, .int .i64 h, .string N, .string L, .string V, .int .i64 n]).alloc (.cells #[.int .i64 0, .int .i64 0, .string ⟨#[]⟩, .string ⟨#[]⟩, .string ⟨#[]⟩, .int .i64 0] 31)
  have c0 := hB.cell 0 _ rfl
  have c1 := hB.cell 1 _ rfl
  have c2 := hB.cell 2 _ rfl
  have c3 := hB.cell 3 _ rfl
  have c4 := hB.cell 4 _ rfl
  have c5 := hB.cell 5 _ rfl
  clear hB
  go_enter Tryd.func8, Tryd.ntmps8
  go_wp2_with ((with_reducible refine at_store 2 ?_); refine wpList_store_new rfl 31 (.tmp 2) (.tmp 20) rfl _ #[.int .i64 a, .int .i64 h, .string N, .string L, .string V, .int .i64 n] rfl rfl cmd6Info rfl (cmd_one _ _ _ _ _ _) ?_)
  have hE := BlkAt.new (w.alloc (.cells #[.int .i64 a, .int .i64 h, .string N, .string L, .string V, .int .i64 n] 25)) 31 [.int .i64 a, .int .i64 h, .string N, .string L, .string V, .int .i64 n]
  have e0 := hE.cell 0 _ rfl
  have e1 := hE.cell 1 _ rfl
  have e2 := hE.cell 2 _ rfl
  have e3 := hE.cell 3 _ rfl
  have e4 := hE.cell 4 _ rfl
  have e5 := hE.cell 5 _ rfl
  refine bodyPost_ret (v := .agg #[.int .i64 a, .int .i64 h, .string N, .string L, .string V, .int .i64 n]) (by simp [results, Tryd.results8, go_sem, e0, e1, e2, e3, e4, e5]) rfl ⟨rfl, ?_⟩
  exact ((Keeps.refl _ _).alloc _).alloc _
end Go.Proofs.YtfflgbpppcfamaaDoor
