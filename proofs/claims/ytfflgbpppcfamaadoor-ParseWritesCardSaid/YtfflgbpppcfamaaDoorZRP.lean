/- to: the law's way from the document's command to the code's, walked. -/
import Derived.Test.YtfflgbpppcfamaaDoorZRM
namespace Go.Proofs.YtfflgbpppcfamaaDoor
open Go.RowKit

set_option maxRecDepth 100000 in
set_option maxHeartbeats 1000000 in
theorem to6_any (a h : Int) (N L V : ByteArray) (n : Int) (w : World) :
    Calls Tryd.prog 10 #[.agg #[.int .i64 a, .int .i64 h, .string N, .string L, .string V, .int .i64 n]] w fun e w' => e = .returned (.agg #[.int .i64 a, .int .i64 h, .string N, .string L, .string V, .int .i64 n]) ∧ Keeps (fun _ => False) w w' := by
  have hB := (BlkAt.new w 31 [.int .i64 a, .int .i64 h, .string N, .string L, .string V, .int .i64 n]).alloc (.cells #[.int .i64 0, .int .i64 0, .string ⟨#[]⟩, .string ⟨#[]⟩, .string ⟨#[]⟩, .int .i64 0] 25)
  have c0 := hB.cell 0 _ rfl
  have c1 := hB.cell 1 _ rfl
  have c2 := hB.cell 2 _ rfl
  have c3 := hB.cell 3 _ rfl
  have c4 := hB.cell 4 _ rfl
  have c5 := hB.cell 5 _ rfl
  clear hB
  go_enter Tryd.func10, Tryd.ntmps10
  go_wp2_with ((with_reducible refine at_store 2 ?_); refine wpList_store_new rfl 25 (.tmp 2) (.tmp 20) rfl _ #[.int .i64 a, .int .i64 h, .string N, .string L, .string V, .int .i64 n] rfl rfl cmdInfo rfl (cmd_one _ _ _ _ _ _) ?_)
  have hE := BlkAt.new (w.alloc (.cells #[.int .i64 a, .int .i64 h, .string N, .string L, .string V, .int .i64 n] 31)) 25 [.int .i64 a, .int .i64 h, .string N, .string L, .string V, .int .i64 n]
  have e0 := hE.cell 0 _ rfl
  have e1 := hE.cell 1 _ rfl
  have e2 := hE.cell 2 _ rfl
  have e3 := hE.cell 3 _ rfl
  have e4 := hE.cell 4 _ rfl
  have e5 := hE.cell 5 _ rfl
  refine bodyPost_ret (v := .agg #[.int .i64 a, .int .i64 h, .string N, .string L, .string V, .int .i64 n]) (by simp [results, Tryd.results10, go_sem, e0, e1, e2, e3, e4, e5]) rfl ⟨rfl, ?_⟩
  exact ((Keeps.refl _ _).alloc _).alloc _
end Go.Proofs.YtfflgbpppcfamaaDoor
