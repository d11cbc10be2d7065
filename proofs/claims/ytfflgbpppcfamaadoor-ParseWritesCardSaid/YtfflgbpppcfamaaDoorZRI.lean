/- ParseReads' walk. -/
import Derived.Test.YtfflgbpppcfamaaDoorZRH
namespace Go.Proofs.YtfflgbpppcfamaaDoor
open Go.RowKit

set_option maxRecDepth 100000 in
set_option maxHeartbeats 2000000 in
theorem parseReads_law (s : ByteArray) (w : World) (hs : s.size ≤ 9223372036854775807) (ht : Hid (VerbsOk w)) :
    Calls Tryd.prog 3 #[.string s] w (lawEnd w) := by
  by_cases h : s.size ≤ 150
  all_goals
    go_enter Tryd.func3, Tryd.ntmps3
    go_wp2_with fail
    first
      | (obtain ⟨x, hx⟩ : ∃ x : ByteArray, x = s.extract 0 150 := ⟨_, rfl⟩
         have hxs : x.size ≤ 150 := by rw [hx]; exact cut_size s 150
         rw [← hx])
      | (obtain ⟨x, hx⟩ : ∃ x : ByteArray, x = s := ⟨_, rfl⟩
         have hxs : x.size ≤ 150 := by rw [hx]; exact h
         rw [← hx])
    have hx' := Lib.hid hx; clear hx h
    cases hr : readD x.data.toList with
    | none =>
      have hr' := Lib.hid hr; clear hr
      refine (read_none x _ ht (by omega) hr').mono ?_
      rintro e w1 ⟨rfl, k1⟩
      have k1' := Lib.hid k1; clear k1
      go_wp2_with ((with_reducible refine at_store 3 ?_); refine wpList_store_new rfl 25 (.tmp 3) (.tmp 15) rfl _ #[.int .i64 0, .int .i64 0, .string ⟨#[]⟩, .string ⟨#[]⟩, .string ⟨#[]⟩, .int .i64 0] rfl rfl cmdInfo rfl (cmd_one _ _ _ _ _ _) ?_)
      refine (rRead_none x _ (by omega) hr').mono ?_
      rintro e w2 ⟨a, h, N, L, V, n, rfl, k2⟩
      have hB3 := Lib.hid (((BlkAt.new w1 25 [.int .i64 0, .int .i64 0, .string ⟨#[]⟩, .string ⟨#[]⟩, .string ⟨#[]⟩, .int .i64 0]).keep k2 id).alloc (.cells #[.int .i64 a, .int .i64 h, .string N, .string L, .string V, .int .i64 n] 31))
      have k3 := Lib.hid (((k1'.out.alloc (.cells #[.int .i64 0, .int .i64 0, .string ⟨#[]⟩, .string ⟨#[]⟩, .string ⟨#[]⟩, .int .i64 0] 25)).trans k2).alloc (.cells #[.int .i64 a, .int .i64 h, .string N, .string L, .string V, .int .i64 n] 31))
      have ht3 := Lib.hid (ht.out.keep k3.out)
      clear k2 k1'
      go_wp2_with ((with_reducible refine at_store 5 ?_); refine wpList_store_new rfl 31 (.tmp 5) (.tmp 20) rfl _ #[.int .i64 a, .int .i64 h, .string N, .string L, .string V, .int .i64 n] rfl rfl cmd6Info rfl (cmd_one _ _ _ _ _ _) ?_)
      refine (reads6_any _ ht3).mono ?_
      rintro e w4 ⟨rfl, k4⟩
      have hB4 := Lib.hid (hB3.out.keep k4 id)
      have k4' := Lib.hid (k3.out.trans k4)
      clear k4 hB3 k3
      go_wp2_with ((with_reducible refine at_slot 30 ?_); refine wpList_load_mid_gd (by rfl) 25 (.tmp 3) rfl w1.heap.size 0 rfl [.int .i64 0, .int .i64 0, .string ⟨#[]⟩, .string ⟨#[]⟩, .string ⟨#[]⟩, .int .i64 0] _ hB4.out.range Tryd.underlying25 rfl cmdInfo ?_)
      go_ret
      exact lawEnd.mk k4'.out
    | some c =>
      have hr' := Lib.hid hr; clear hr
      obtain ⟨a, ha⟩ : ∃ a, a = c.what := ⟨_, rfl⟩
      obtain ⟨h, hh⟩ : ∃ h, h = c.head := ⟨_, rfl⟩
      obtain ⟨n, hn⟩ : ∃ n, n = c.n := ⟨_, rfl⟩
      obtain ⟨N, hN⟩ : ∃ N : ByteArray, N = ⟨c.name.toArray⟩ := ⟨_, rfl⟩
      obtain ⟨L, hL⟩ : ∃ L : ByteArray, L = ⟨c.leaf.toArray⟩ := ⟨_, rfl⟩
      obtain ⟨V, hV⟩ : ∃ V : ByteArray, V = ⟨c.value.toArray⟩ := ⟨_, rfl⟩
      refine (read_some x c N L V _ ht (by omega) hr' (Lib.hid hN) (Lib.hid hL) (Lib.hid hV)).mono ?_
      rintro e w1 ⟨rfl, k1⟩
      rw [← ha, ← hh, ← hn]
      have k1' := Lib.hid k1
      have hN' := Lib.hid hN; have hL' := Lib.hid hL; have hV' := Lib.hid hV; have ha' := Lib.hid ha; have hh' := Lib.hid hh; have hn' := Lib.hid hn
      clear k1 hN hL hV ha hh hn
      go_wp2_with ((with_reducible refine at_store 3 ?_); refine wpList_store_new rfl 25 (.tmp 3) (.tmp 15) rfl _ #[.int .i64 a, .int .i64 h, .string N, .string L, .string V, .int .i64 n] rfl rfl cmdInfo rfl (cmd_one _ _ _ _ _ _) ?_)
      refine (rRead_some x c N L V _ (by omega) hr' hN' hL' hV').mono ?_
      rintro e w2 ⟨rfl, k2⟩
      rw [← ha'.out, ← hh'.out, ← hn'.out]
      obtain ⟨W3, hW3⟩ : ∃ W3, W3 = w2.alloc (.cells #[.int .i64 a, .int .i64 h, .string N, .string L, .string V, .int .i64 n] 31) := ⟨_, rfl⟩
      have hB3 : Hid (BlkAt W3 w1.heap.size 25 [.int .i64 a, .int .i64 h, .string N, .string L, .string V, .int .i64 n]) := Lib.hid (by rw [hW3]; exact ((BlkAt.new w1 25 [.int .i64 a, .int .i64 h, .string N, .string L, .string V, .int .i64 n]).keep k2 id).alloc (.cells #[.int .i64 a, .int .i64 h, .string N, .string L, .string V, .int .i64 n] 31))
      have hB5 : Hid (BlkAt W3 w2.heap.size 31 [.int .i64 a, .int .i64 h, .string N, .string L, .string V, .int .i64 n]) := Lib.hid (by rw [hW3]; exact BlkAt.new w2 31 [.int .i64 a, .int .i64 h, .string N, .string L, .string V, .int .i64 n])
      have k3 : Hid (Keeps (fun _ => False) w W3) := Lib.hid (by rw [hW3]; exact ((k1'.out.alloc (.cells #[.int .i64 a, .int .i64 h, .string N, .string L, .string V, .int .i64 n] 25)).trans k2).alloc (.cells #[.int .i64 a, .int .i64 h, .string N, .string L, .string V, .int .i64 n] 31))
      have hW3' := Lib.hid hW3
      clear k2 k1' hW3
      go_upto_region 6 with ((with_reducible refine at_store 5 ?_); refine wpList_store_new rfl 31 (.tmp 5) (.tmp 20) rfl _ #[.int .i64 a, .int .i64 h, .string N, .string L, .string V, .int .i64 n] rfl rfl cmd6Info rfl (cmd_one _ _ _ _ _ _) ?_)
      rw [← hW3'.out]
      clear hW3'
      refine wp_region_noPanic ?_
      refine wp_region_held_drew (S := (fun W => Keeps (fun _ => False) W3 W)) (by kernel_rfl) (((Keeps.refl _ _).drew)) (fun hHeld => ?_)
      refine stepL 0 rfl (by kernel_rfl) (fun K hK => ?_)
      go_simp
      (refine (reads6_any _ (Lib.hid (ht.out.keep (k3.out.trans hHeld)))).mono ?_; rintro e w4 ⟨rfl, k4⟩; have k4' := Lib.hid k4; clear k4)
      go_wp2_with fail
      refine hK.out _ _ ((hHeld.trans k4'.out)) (fun hHeld => ?_)
      clear hK K
      try simp only [Act.put, sA, sZ, sS]
      refine tk 1 rfl ?_
      refine tk 2 rfl ?_
      refine tk 3 rfl ?_
      refine tk 4 rfl ?_
      refine tk 5 rfl ?_
      refine tkL 6 rfl (yieldsIf_load_mid (by rfl) 25 (.tmp 3) rfl w1.heap.size 0 rfl [.int .i64 a, .int .i64 h, .string N, .string L, .string V, .int .i64 n] _ (fun _ s => (hB3.out.keep s id).range) Tryd.underlying25 rfl cmdInfo) ?_
      refine tkL 8 rfl (yieldsIf_load_mid (by rfl) 31 (.tmp 5) rfl w2.heap.size 0 rfl [.int .i64 a, .int .i64 h, .string N, .string L, .string V, .int .i64 n] _ (fun _ s => (hB5.out.keep s id).range) Tryd.underlying31 rfl cmd6Info) ?_
      refine stepL 7 rfl (by kernel_rfl) (fun K hK => ?_)
      go_simp
      (refine (from6_any a h N L V n _).mono ?_; rintro e w5 ⟨rfl, k5⟩; have k5' := Lib.hid k5; clear k5)
      go_wp2_with fail
      refine hK.out _ _ ((hHeld.trans k5'.out)) (fun hHeld => ?_)
      clear hK K
      try simp only [Act.put, sA, sZ, sS]
      refine tk 9 rfl ?_
      refine tk 10 rfl ?_
      refine tk 11 rfl ?_
      refine wpAnyH_done (by kernel_rfl) (NoPanic.normal ?_) _
      have k6 := Lib.hid (k3.out.trans hHeld)
      clear hHeld
      go_wp2_with fail
      go_ret
      exact lawEnd.mk k6.out
end Go.Proofs.YtfflgbpppcfamaaDoor
