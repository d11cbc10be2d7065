/- path and number, walked. -/
import Derived.Test.YtdannodhlaaoiaaGreatDoorWT12
import Derived.Laws.ResultCell
import Derived.Deep.DeepCutAuto
set_option linter.unusedVariables false
set_option linter.unusedSimpArgs false
namespace Go.Proofs.YtdannodhlaaoiaaGreatDoor
open Go.RowKit

/-- a struct and another result, read -/
theorem ret_cell_tmp {P : Program} {fn : Func} {p u : Tmp} {ty : TypeId} (h : fn.results = #[.cell p ty, .tmp u]) (tmps : Array Value) (w : World) (b : Nat) (cs : List Value) (d : TypeDesc) (hp : tmps.getD p undef = .pointer (some ⟨b, 0, none⟩))
    (hc : w.rangeAt b 0 cs) (hu : P.underlying ty = some d) (hd : d.isRow = true) (hi : (P.info? ty).map (·.size) = some cs.length) : (results fn tmps).run P w = .ok (.tuple #[.agg cs.toArray, tmps.getD u undef]) w := by
  rw [results_cell_tmp h, hp]
  have hl := run_loadVar_mid w b 0 ty cs d hc hu hd hi
  simp only [asAddr, Sem.run_pure, Result.andThen, hl]
theorem line_oneL (h : Int) (N F V : ByteArray) : (#[.int .i64 h, .string N, .string F, .string V] : Array Value).all (·.oneCell') = true := line_one h N F V
/-- what path answers -/
def PathPost (f : Option (Int × List UInt8 × List UInt8)) (w : World) (e : Ending) (w' : World) : Prop :=
  ∃ (h : Int) (N L : ByteArray), e = .returned (.tuple #[.agg #[.int .i64 h, .string N, .string L, .string ⟨#[]⟩], .bool f.isSome]) ∧ Keeps (fun _ => False) w w' ∧ (∀ x, f = some x → h = x.1 ∧ N.data.toList = x.2.1 ∧ L.data.toList = x.2.2)
theorem headOf_r (s : ByteArray) (r : Int) (z : Bool) (w : World) (hr : Hid (headD s.data.toList = r)) (hz : Hid (decide (r ≠ 0) = z)) :
    Calls Tryz.prog 69 #[.string s] w fun e w' => e = .returned (.tuple #[.int .i64 r, .bool z]) ∧ w = w' :=
  (headOf_any s r w hr).mono fun e w' ⟨he, hw⟩ => ⟨by rw [he, hz.out], hw⟩
theorem Keeps.cell0 {w w' : World} (k : Keeps (fun _ => False) w w') {a : Addr} {v : Value} (h : w.cell? a = some v) : w'.cell? a = some v := by rw [k.cell (World.block_lt_of_cell? _ _ h) id]; exact h
theorem two_cells {w : World} {v : Value} {xs : List (List UInt8)} (h : StrsAt w v xs) (hl : 0 < xs.length) : ∃ (g o c : Nat), v = .slice (some ⟨g, o, none⟩) xs.length c ∧ ∀ j (hj : j < xs.length), w.cell? ⟨g, o + j, none⟩ = some (.string ⟨(xs[j]).toArray⟩) := by
  obtain ⟨p, c, rfl, h⟩ := h
  obtain ⟨g, o, rfl, hr⟩ := h hl
  exact ⟨g, o, c, rfl, fun j hj => hr j _ (by simp [hj, strv])⟩
theorem ba_data (l : List UInt8) : (⟨l.toArray⟩ : ByteArray).data.toList = l := rfl

set_option maxRecDepth 100000 in
set_option maxHeartbeats 1000000 in
theorem path_no (p : Option Addr) (n c : Nat) (w : World) (hn : n = 0 ∨ 4 ≤ n) : Calls Tryz.prog 93 #[.slice p n c] w (PathPost none w) := by
  have e1 : ((n : Int) == 1) = false := by rw [beq_eq_false_iff_ne]; omega
  have e2 : ((n : Int) == 2) = false := by rw [beq_eq_false_iff_ne]; omega
  have e3 : ((n : Int) == 3) = false := by rw [beq_eq_false_iff_ne]; omega
  have f1 : (n == 1) = false := by rw [beq_eq_false_iff_ne]; omega
  have f2 : (n == 2) = false := by rw [beq_eq_false_iff_ne]; omega
  have f3 : (n == 3) = false := by rw [beq_eq_false_iff_ne]; omega
  clear hn
  go_enter Tryz.func93, Tryz.ntmps93
  go_wp2_with ((with_reducible refine at_store 2 ?_); refine wpList_store_blk rfl 50 (.tmp 2) (.tmp 55) rfl w.heap.size #[.int .i64 0, .string ⟨#[]⟩, .string ⟨#[]⟩, .string ⟨#[]⟩] rfl rfl (BlkAt.there (BlkAt.new w 50 [.int .i64 0, .string ⟨#[]⟩, .string ⟨#[]⟩, .string ⟨#[]⟩]) 0 4 (Nat.le_refl 4)) lineInfo (line_one _ _ _ _) ?_; intro w9 hr9 hs9)
  refine bodyPost_ret (v := .tuple #[.agg #[.int .i64 0, .string ⟨#[]⟩, .string ⟨#[]⟩, .string ⟨#[]⟩], .bool false]) (ret_cell_tmp Tryz.results93 _ _ w.heap.size [.int .i64 0, .string ⟨#[]⟩, .string ⟨#[]⟩, .string ⟨#[]⟩] _ rfl hr9.out Tryz.underlying50 rfl lineInfo) rfl ⟨_, _, _, rfl, ((Keeps.refl _ _).alloc _).trans' hs9.out (fun i e => .inr (by omega)), fun _ h => by cases h⟩
set_option maxRecDepth 100000 in
set_option maxHeartbeats 1000000 in
theorem path_one (v : Value) (l : List UInt8) (r : Bool) (w : World) (hv : Hid (StrsAt w v [l])) (hr : Hid ((findD 0 l).isSome = r)) :
    Calls Tryz.prog 93 #[v] w fun e w' => e = .returned (.tuple #[.agg #[.int .i64 0, .string ⟨#[]⟩, .string ⟨l.toArray⟩, .string ⟨#[]⟩], .bool r]) ∧ Keeps (fun _ => False) w w' := by
  obtain ⟨g, o, c, rfl, hc⟩ := two_cells hv.out (by simp)
  obtain ⟨L, hL⟩ : ∃ L : ByteArray, L = ⟨l.toArray⟩ := ⟨_, rfl⟩
  have hd0 : w.cell? ⟨g, o, none⟩ = some (.string L) := by rw [hL]; exact hc 0 (by simp)
  have hr' : Hid ((findD 0 L.data.toList).isSome = r) := Lib.hid (by rw [hL]; exact hr.out)
  rw [← hL]
  have c0 := ((Keeps.refl (fun _ => False) w).alloc (.cells #[.int .i64 0, .string ⟨#[]⟩, .string ⟨#[]⟩, .string ⟨#[]⟩] 50)).cell0 hd0
  obtain ⟨W0, hW0⟩ : ∃ W0, W0 = (w.alloc (.cells #[.int .i64 0, .string ⟨#[]⟩, .string ⟨#[]⟩, .string ⟨#[]⟩] 50)).alloc (.cells #[.int .i64 0, .string ⟨#[]⟩, .string L, .string ⟨#[]⟩] 50) := ⟨_, rfl⟩
  have hBr : Hid (BlkAt W0 w.heap.size 50 [.int .i64 0, .string ⟨#[]⟩, .string ⟨#[]⟩, .string ⟨#[]⟩]) := Lib.hid (by rw [hW0]; exact (BlkAt.new w 50 [.int .i64 0, .string ⟨#[]⟩, .string ⟨#[]⟩, .string ⟨#[]⟩]).alloc _)
  have hBl : Hid (BlkAt W0 (w.heap.size + 1) 50 [.int .i64 0, .string ⟨#[]⟩, .string L, .string ⟨#[]⟩]) := Lib.hid (by
    have := BlkAt.new (w.alloc (.cells #[.int .i64 0, .string ⟨#[]⟩, .string ⟨#[]⟩, .string ⟨#[]⟩] 50)) 50 [.int .i64 0, .string ⟨#[]⟩, .string L, .string ⟨#[]⟩]
    rw [hW0]; simpa using this)
  have hK : Hid (Keeps (fun _ => False) w W0) := Lib.hid (by rw [hW0]; exact ((Keeps.refl _ _).alloc _).alloc _)
  have hW0' := Lib.hid hW0
  clear hW0 hv hc hL hr hd0
  go_enter Tryz.func93, Tryz.ntmps93
  go_upto_region 4 with ((with_reducible refine at_store 4 ?_); refine wpList_store_new rfl 50 (.tmp 4) (.tmp 15) rfl _ #[.int .i64 0, .string ⟨#[]⟩, .string L, .string ⟨#[]⟩] rfl rfl lineInfo rfl (line_one _ _ _ _) ?_)
  rw [← hW0'.out]
  clear hW0' c0
  refine wp_region_noPanic ?_
  refine wp_region_held_drew (S := (fun W => Keeps (fun i => i = w.heap.size) W0 W)) (by kernel_rfl) (((Keeps.refl _ _).drew)) (fun hHeld => ?_)
  refine tkL 0 rfl (yieldsIf_load_mid (by rfl) 50 (.tmp 4) rfl (w.heap.size + 1) 0 rfl [.int .i64 0, .string ⟨#[]⟩, .string L, .string ⟨#[]⟩] _ (fun _ s => (hBl.out.keep s (by omega)).range) Tryz.underlying50 rfl lineInfo) ?_
  refine tkL 1 rfl (yieldsIf_load_mid (by rfl) 50 (.tmp 4) rfl (w.heap.size + 1) 0 rfl [.int .i64 0, .string ⟨#[]⟩, .string L, .string ⟨#[]⟩] _ (fun _ s => (hBl.out.keep s (by omega)).range) Tryz.underlying50 rfl lineInfo) ?_
  refine stepL 2 rfl (by kernel_rfl) (fun K hK => ?_)
  go_simp
  (refine (hasRow_any 0 _ L _ r _ hr').mono ?_; rintro e w2 ⟨rfl, hk2⟩; have hb2 := Lib.hid (hBr.out.keep (((Keeps.refl (fun _ => False) W0).drew).trans hk2) id); have hk2' := Lib.hid hk2; clear hk2)
  go_wp2_with fail
  refine hK.out _ _ ((hHeld.trans' hk2'.out (fun _ f => f.elim))) (fun hHeld => ?_)
  clear hK K
  try simp only [Act.put, sA, sZ, sS]
  refine stepL 3 rfl (by kernel_rfl) (fun K hK => ?_)
  rw [if_pos (by rfl)]
  (refine wp_store_mid 50 (.tmp 2) (.tmp 16) rfl w.heap.size 0 #[.int .i64 0, .string ⟨#[]⟩, .string L, .string ⟨#[]⟩] rfl rfl (hb2.out.there 0 4 (Nat.le_refl 4)) lineInfo (line_one _ _ _ _) ?_; have hs9 : Keeps (fun i => i = w.heap.size) w2 (w2.setCells w.heap.size 0 [.int .i64 0, .string ⟨#[]⟩, .string L, .string ⟨#[]⟩]) := Keeps.setCells (F := fun i => i = w.heap.size) (.inl rfl) _ _ _ (Keeps.refl _ _); have hr9 : (w2.setCells w.heap.size 0 [.int .i64 0, .string ⟨#[]⟩, .string L, .string ⟨#[]⟩]).rangeAt w.heap.size 0 [.int .i64 0, .string ⟨#[]⟩, .string L, .string ⟨#[]⟩] := World.rangeAt_setCells_same _ _ _ _ (hb2.out.there 0 4 (Nat.le_refl 4)); simp only [] at hs9 hr9 ⊢; generalize w2.setCells w.heap.size 0 [.int .i64 0, .string ⟨#[]⟩, .string L, .string ⟨#[]⟩] = w9 at hs9 hr9 ⊢)
  refine hK.out _ _ ((hHeld.trans' hs9 (fun i e => .inl e))) (fun hHeld => ?_)
  clear hK K
  try simp only [Act.put, sA, sZ, sS]
  refine tk 4 rfl ?_
  refine wpAnyH_done (by kernel_rfl) (NoPanic.normal ?_) _
  have hw9 := Lib.hid hHeld; have hr9 := Lib.hid hr9; clear hHeld hs9
  go_wp2_with fail
  refine bodyPost_ret (v := .tuple #[.agg #[.int .i64 0, .string ⟨#[]⟩, .string L, .string ⟨#[]⟩], .bool r]) (ret_cell_tmp Tryz.results93 _ _ w.heap.size [.int .i64 0, .string ⟨#[]⟩, .string L, .string ⟨#[]⟩] _ rfl hr9.out Tryz.underlying50 rfl lineInfo) rfl ⟨rfl, ?_⟩
  exact hK.out.trans' hw9.out (fun i e => .inr (by omega))
set_option maxRecDepth 100000 in
set_option maxHeartbeats 1000000 in
theorem path2_nohead (v : Value) (x y : List UInt8) (w : World) (hv : Hid (StrsAt w v [x, y])) (hh0 : Hid (headD x = 0)) : Calls Tryz.prog 93 #[v] w (PathPost none w) := by
  obtain ⟨h, hhe⟩ : ∃ h : Int, h = 0 := ⟨_, rfl⟩
  have hh : Hid (headD x = h) := Lib.hid (by rw [hhe]; exact hh0.out)
  have hz : Hid (decide (h ≠ 0) = false) := Lib.hid (by rw [hhe]; rfl)
  obtain ⟨g, o, c, rfl, hc⟩ := two_cells hv.out (by simp)
  obtain ⟨H, hH⟩ : ∃ H : ByteArray, H = ⟨x.toArray⟩ := ⟨_, rfl⟩
  obtain ⟨N, hN⟩ : ∃ N : ByteArray, N = ⟨y.toArray⟩ := ⟨_, rfl⟩
  have hd0 : w.cell? ⟨g, o, none⟩ = some (.string H) := by rw [hH]; exact hc 0 (by simp)
  have hd1 : w.cell? ⟨g, o + 1, none⟩ = some (.string N) := by rw [hN]; exact hc 1 (by simp)
  have hh' : Hid (headD H.data.toList = h) := Lib.hid (by rw [hH]; exact hh.out)
  have c0 := ((Keeps.refl (fun _ => False) w).alloc (.cells #[.int .i64 0, .string ⟨#[]⟩, .string ⟨#[]⟩, .string ⟨#[]⟩] 50)).cell0 hd0
  have c1 := ((Keeps.refl (fun _ => False) w).alloc (.cells #[.int .i64 0, .string ⟨#[]⟩, .string ⟨#[]⟩, .string ⟨#[]⟩] 50)).cell0 hd1
  clear hv hc hH hN hh hd0 hd1 hhe hh0
  go_enter Tryz.func93, Tryz.ntmps93
  go_wp2_with fail
  refine (headOf_r H h false _ hh' hz).mono ?_
  rintro e w2 ⟨rfl, rfl⟩
  go_wp2_with (first | ((with_reducible refine at_store 7 ?_); refine wpList_store_new rfl 50 (.tmp 7) (.tmp 33) rfl _ #[.int .i64 h, .string N, .string ⟨#[]⟩, .string ⟨#[]⟩] rfl rfl lineInfo rfl (line_one _ _ _ _) ?_) | ((with_reducible refine at_store 2 ?_); refine wpList_store_blk rfl 50 (.tmp 2) (.tmp 43) rfl w.heap.size #[.int .i64 0, .string ⟨#[]⟩, .string ⟨#[]⟩, .string ⟨#[]⟩] rfl rfl (BlkAt.there ((BlkAt.new w 50 [.int .i64 0, .string ⟨#[]⟩, .string ⟨#[]⟩, .string ⟨#[]⟩]).alloc _) 0 4 (Nat.le_refl 4)) lineInfo (line_one _ _ _ _) ?_; intro w9 hr9 hs9))
  refine bodyPost_ret (v := .tuple #[.agg #[.int .i64 0, .string ⟨#[]⟩, .string ⟨#[]⟩, .string ⟨#[]⟩], .bool false]) (ret_cell_tmp Tryz.results93 _ _ w.heap.size [.int .i64 0, .string ⟨#[]⟩, .string ⟨#[]⟩, .string ⟨#[]⟩] _ rfl hr9.out Tryz.underlying50 rfl lineInfo) rfl ⟨_, _, _, rfl, (((Keeps.refl _ _).alloc _).alloc _).trans' hs9.out (fun i e => .inr (by omega)), fun _ h => by cases h⟩
set_option maxRecDepth 100000 in
set_option maxHeartbeats 1000000 in
theorem path2_noname (v : Value) (x y : List UInt8) (h : Int) (w : World) (hv : Hid (StrsAt w v [x, y])) (hy : y.length ≤ 9223372036854775807) (hh : Hid (headD x = h)) (hz : Hid (decide (h ≠ 0) = true)) (hn : Hid (namedB h y = false)) : Calls Tryz.prog 93 #[v] w (PathPost none w) := by
  obtain ⟨g, o, c, rfl, hc⟩ := two_cells hv.out (by simp)
  obtain ⟨H, hH⟩ : ∃ H : ByteArray, H = ⟨x.toArray⟩ := ⟨_, rfl⟩
  obtain ⟨N, hN⟩ : ∃ N : ByteArray, N = ⟨y.toArray⟩ := ⟨_, rfl⟩
  have hd0 : w.cell? ⟨g, o, none⟩ = some (.string H) := by rw [hH]; exact hc 0 (by simp)
  have hd1 : w.cell? ⟨g, o + 1, none⟩ = some (.string N) := by rw [hN]; exact hc 1 (by simp)
  have hh' : Hid (headD H.data.toList = h) := Lib.hid (by rw [hH]; exact hh.out)
  have c0 := ((Keeps.refl (fun _ => False) w).alloc (.cells #[.int .i64 0, .string ⟨#[]⟩, .string ⟨#[]⟩, .string ⟨#[]⟩] 50)).cell0 hd0
  have c1 := ((Keeps.refl (fun _ => False) w).alloc (.cells #[.int .i64 0, .string ⟨#[]⟩, .string ⟨#[]⟩, .string ⟨#[]⟩] 50)).cell0 hd1
  have hn' : Hid (namedB h N.data.toList = false) := Lib.hid (by rw [hN]; exact hn.out)
  have hNs : N.size ≤ 9223372036854775807 := by rw [hN]; exact hy
  obtain ⟨W0, hW0⟩ : ∃ W0, W0 = (w.alloc (.cells #[.int .i64 0, .string ⟨#[]⟩, .string ⟨#[]⟩, .string ⟨#[]⟩] 50)).alloc (.cells #[.int .i64 h, .string N, .string ⟨#[]⟩, .string ⟨#[]⟩] 50) := ⟨_, rfl⟩
  have hBr : Hid (BlkAt W0 w.heap.size 50 [.int .i64 0, .string ⟨#[]⟩, .string ⟨#[]⟩, .string ⟨#[]⟩]) := Lib.hid (by rw [hW0]; exact (BlkAt.new w 50 [.int .i64 0, .string ⟨#[]⟩, .string ⟨#[]⟩, .string ⟨#[]⟩]).alloc _)
  have hBl : Hid (BlkAt W0 (w.heap.size + 1) 50 [.int .i64 h, .string N, .string ⟨#[]⟩, .string ⟨#[]⟩]) := Lib.hid (by
    have := BlkAt.new (w.alloc (.cells #[.int .i64 0, .string ⟨#[]⟩, .string ⟨#[]⟩, .string ⟨#[]⟩] 50)) 50 [.int .i64 h, .string N, .string ⟨#[]⟩, .string ⟨#[]⟩]
    rw [hW0]; simpa using this)
  have hK : Hid (Keeps (fun _ => False) w W0) := Lib.hid (by rw [hW0]; exact ((Keeps.refl _ _).alloc _).alloc _)
  have hW0' := Lib.hid hW0
  clear hW0 hv hc hH hN hh hd0 hd1 hn hy
  go_enter Tryz.func93, Tryz.ntmps93
  go_wp2_with fail
  refine (headOf_r H h true _ hh' hz).mono ?_
  rintro e w2 ⟨rfl, rfl⟩
  go_upto_region 9 with ((with_reducible refine at_store 7 ?_); refine wpList_store_new rfl 50 (.tmp 7) (.tmp 33) rfl _ #[.int .i64 h, .string N, .string ⟨#[]⟩, .string ⟨#[]⟩] rfl rfl lineInfo rfl (line_one _ _ _ _) ?_)
  rw [← hW0'.out]
  have cN := hBl.out.cell 1 _ rfl
  clear hW0' c0 c1
  go_wp2_with fail
  refine (named_any h N false _ hNs hn').mono ?_
  rintro e w2 ⟨rfl, m2, rfl⟩
  clear cN
  go_wp2_with ((with_reducible refine at_store 2 ?_); refine wpList_store_blk rfl 50 (.tmp 2) (.tmp 43) rfl w.heap.size #[.int .i64 0, .string ⟨#[]⟩, .string ⟨#[]⟩, .string ⟨#[]⟩] rfl rfl (BlkAt.there (hBr.out.keep ((Keeps.refl (fun _ => False) _).drewN _) id) 0 4 (Nat.le_refl 4)) lineInfo (line_one _ _ _ _) ?_; intro w9 hr9 hs9)
  refine bodyPost_ret (v := .tuple #[.agg #[.int .i64 0, .string ⟨#[]⟩, .string ⟨#[]⟩, .string ⟨#[]⟩], .bool false]) (ret_cell_tmp Tryz.results93 _ _ w.heap.size [.int .i64 0, .string ⟨#[]⟩, .string ⟨#[]⟩, .string ⟨#[]⟩] _ rfl hr9.out Tryz.underlying50 rfl lineInfo) rfl ⟨_, _, _, rfl, (hK.out.drewN _).trans' hs9.out (fun i e => .inr (by omega)), fun _ h => by cases h⟩
set_option maxRecDepth 100000 in
set_option maxHeartbeats 1000000 in
theorem path2_ok (v : Value) (x y : List UInt8) (h : Int) (w : World) (hv : Hid (StrsAt w v [x, y])) (hy : y.length ≤ 9223372036854775807) (hh : Hid (headD x = h)) (hz : Hid (decide (h ≠ 0) = true)) (hn : Hid (namedB h y = true)) :
    Calls Tryz.prog 93 #[v] w fun e w' => e = .returned (.tuple #[.agg #[.int .i64 h, .string ⟨y.toArray⟩, .string ⟨#[]⟩, .string ⟨#[]⟩], .bool true]) ∧ Keeps (fun _ => False) w w' := by
  obtain ⟨g, o, c, rfl, hc⟩ := two_cells hv.out (by simp)
  obtain ⟨H, hH⟩ : ∃ H : ByteArray, H = ⟨x.toArray⟩ := ⟨_, rfl⟩
  obtain ⟨N, hN⟩ : ∃ N : ByteArray, N = ⟨y.toArray⟩ := ⟨_, rfl⟩
  have hd0 : w.cell? ⟨g, o, none⟩ = some (.string H) := by rw [hH]; exact hc 0 (by simp)
  have hd1 : w.cell? ⟨g, o + 1, none⟩ = some (.string N) := by rw [hN]; exact hc 1 (by simp)
  have hh' : Hid (headD H.data.toList = h) := Lib.hid (by rw [hH]; exact hh.out)
  have c0 := ((Keeps.refl (fun _ => False) w).alloc (.cells #[.int .i64 0, .string ⟨#[]⟩, .string ⟨#[]⟩, .string ⟨#[]⟩] 50)).cell0 hd0
  have c1 := ((Keeps.refl (fun _ => False) w).alloc (.cells #[.int .i64 0, .string ⟨#[]⟩, .string ⟨#[]⟩, .string ⟨#[]⟩] 50)).cell0 hd1
  rw [← hN]
  have hn' : Hid (namedB h N.data.toList = true) := Lib.hid (by rw [hN]; exact hn.out)
  have hNs : N.size ≤ 9223372036854775807 := by rw [hN]; exact hy
  obtain ⟨W0, hW0⟩ : ∃ W0, W0 = (w.alloc (.cells #[.int .i64 0, .string ⟨#[]⟩, .string ⟨#[]⟩, .string ⟨#[]⟩] 50)).alloc (.cells #[.int .i64 h, .string N, .string ⟨#[]⟩, .string ⟨#[]⟩] 50) := ⟨_, rfl⟩
  have hBr : Hid (BlkAt W0 w.heap.size 50 [.int .i64 0, .string ⟨#[]⟩, .string ⟨#[]⟩, .string ⟨#[]⟩]) := Lib.hid (by rw [hW0]; exact (BlkAt.new w 50 [.int .i64 0, .string ⟨#[]⟩, .string ⟨#[]⟩, .string ⟨#[]⟩]).alloc _)
  have hBl : Hid (BlkAt W0 (w.heap.size + 1) 50 [.int .i64 h, .string N, .string ⟨#[]⟩, .string ⟨#[]⟩]) := Lib.hid (by
    have := BlkAt.new (w.alloc (.cells #[.int .i64 0, .string ⟨#[]⟩, .string ⟨#[]⟩, .string ⟨#[]⟩] 50)) 50 [.int .i64 h, .string N, .string ⟨#[]⟩, .string ⟨#[]⟩]
    rw [hW0]; simpa using this)
  have hK : Hid (Keeps (fun _ => False) w W0) := Lib.hid (by rw [hW0]; exact ((Keeps.refl _ _).alloc _).alloc _)
  have hW0' := Lib.hid hW0
  clear hW0 hv hc hH hN hh hd0 hd1 hn hy
  go_enter Tryz.func93, Tryz.ntmps93
  go_wp2_with fail
  refine (headOf_r H h true _ hh' hz).mono ?_
  rintro e w2 ⟨rfl, rfl⟩
  go_upto_region 9 with ((with_reducible refine at_store 7 ?_); refine wpList_store_new rfl 50 (.tmp 7) (.tmp 33) rfl _ #[.int .i64 h, .string N, .string ⟨#[]⟩, .string ⟨#[]⟩] rfl rfl lineInfo rfl (line_one _ _ _ _) ?_)
  rw [← hW0'.out]
  have cN := hBl.out.cell 1 _ rfl
  clear hW0' c0 c1
  go_wp2_with fail
  refine (named_any h N true _ hNs hn').mono ?_
  rintro e w2 ⟨rfl, m2, rfl⟩
  clear cN
  go_wp2_with (first | ((with_reducible refine at_slot 47 ?_); refine wpList_load_mid rfl 50 (.tmp 7) rfl (w.heap.size + 1) 0 rfl [.int .i64 h, .string N, .string ⟨#[]⟩, .string ⟨#[]⟩] _ ((hBl.out.keep ((Keeps.refl (fun _ => False) _).drewN _) id).range) Tryz.underlying50 rfl lineInfo ?_) | ((with_reducible refine at_store 2 ?_); refine wpList_store_blk rfl 50 (.tmp 2) (.tmp 47) rfl w.heap.size #[.int .i64 h, .string N, .string ⟨#[]⟩, .string ⟨#[]⟩] rfl rfl (BlkAt.there (hBr.out.keep ((Keeps.refl (fun _ => False) _).drewN _) id) 0 4 (Nat.le_refl 4)) lineInfo (line_one _ _ _ _) ?_; intro w9 hr9 hs9))
  refine bodyPost_ret (v := .tuple #[.agg #[.int .i64 h, .string N, .string ⟨#[]⟩, .string ⟨#[]⟩], .bool true]) (ret_cell_tmp Tryz.results93 _ _ w.heap.size [.int .i64 h, .string N, .string ⟨#[]⟩, .string ⟨#[]⟩] _ rfl hr9.out Tryz.underlying50 rfl lineInfo) rfl ⟨rfl, ?_⟩
  exact (hK.out.drewN _).trans' hs9.out (fun i e => .inr (by omega))
set_option maxRecDepth 100000 in
set_option maxHeartbeats 1000000 in
theorem path3_nohead (v : Value) (x y l : List UInt8) (w : World) (hv : Hid (StrsAt w v [x, y, l])) (hh0 : Hid (headD x = 0)) : Calls Tryz.prog 93 #[v] w (PathPost none w) := by
  obtain ⟨h, hhe⟩ : ∃ h : Int, h = 0 := ⟨_, rfl⟩
  have hh : Hid (headD x = h) := Lib.hid (by rw [hhe]; exact hh0.out)
  have hz : Hid (decide (h ≠ 0) = false) := Lib.hid (by rw [hhe]; rfl)
  obtain ⟨g, o, c, rfl, hc⟩ := two_cells hv.out (by simp)
  obtain ⟨H, hH⟩ : ∃ H : ByteArray, H = ⟨x.toArray⟩ := ⟨_, rfl⟩
  obtain ⟨N, hN⟩ : ∃ N : ByteArray, N = ⟨y.toArray⟩ := ⟨_, rfl⟩
  have hd0 : w.cell? ⟨g, o, none⟩ = some (.string H) := by rw [hH]; exact hc 0 (by simp)
  have hd1 : w.cell? ⟨g, o + 1, none⟩ = some (.string N) := by rw [hN]; exact hc 1 (by simp)
  have hh' : Hid (headD H.data.toList = h) := Lib.hid (by rw [hH]; exact hh.out)
  have c0 := ((Keeps.refl (fun _ => False) w).alloc (.cells #[.int .i64 0, .string ⟨#[]⟩, .string ⟨#[]⟩, .string ⟨#[]⟩] 50)).cell0 hd0
  have c1 := ((Keeps.refl (fun _ => False) w).alloc (.cells #[.int .i64 0, .string ⟨#[]⟩, .string ⟨#[]⟩, .string ⟨#[]⟩] 50)).cell0 hd1
  clear hv hc hH hN hh hd0 hd1 hhe hh0
  go_enter Tryz.func93, Tryz.ntmps93
  go_wp2_with fail
  refine (headOf_r H h false _ hh' hz).mono ?_
  rintro e w2 ⟨rfl, rfl⟩
  go_wp2_with (first | ((with_reducible refine at_store 7 ?_); refine wpList_store_new rfl 50 (.tmp 7) (.tmp 33) rfl _ #[.int .i64 h, .string N, .string ⟨#[]⟩, .string ⟨#[]⟩] rfl rfl lineInfo rfl (line_one _ _ _ _) ?_) | ((with_reducible refine at_store 2 ?_); refine wpList_store_blk rfl 50 (.tmp 2) (.tmp 43) rfl w.heap.size #[.int .i64 0, .string ⟨#[]⟩, .string ⟨#[]⟩, .string ⟨#[]⟩] rfl rfl (BlkAt.there ((BlkAt.new w 50 [.int .i64 0, .string ⟨#[]⟩, .string ⟨#[]⟩, .string ⟨#[]⟩]).alloc _) 0 4 (Nat.le_refl 4)) lineInfo (line_one _ _ _ _) ?_; intro w9 hr9 hs9))
  refine bodyPost_ret (v := .tuple #[.agg #[.int .i64 0, .string ⟨#[]⟩, .string ⟨#[]⟩, .string ⟨#[]⟩], .bool false]) (ret_cell_tmp Tryz.results93 _ _ w.heap.size [.int .i64 0, .string ⟨#[]⟩, .string ⟨#[]⟩, .string ⟨#[]⟩] _ rfl hr9.out Tryz.underlying50 rfl lineInfo) rfl ⟨_, _, _, rfl, (((Keeps.refl _ _).alloc _).alloc _).trans' hs9.out (fun i e => .inr (by omega)), fun _ h => by cases h⟩
set_option maxRecDepth 100000 in
set_option maxHeartbeats 1000000 in
theorem path3_noname (v : Value) (x y l : List UInt8) (h : Int) (w : World) (hv : Hid (StrsAt w v [x, y, l])) (hy : y.length ≤ 9223372036854775807) (hh : Hid (headD x = h)) (hz : Hid (decide (h ≠ 0) = true)) (hn : Hid (namedB h y = false)) : Calls Tryz.prog 93 #[v] w (PathPost none w) := by
  obtain ⟨g, o, c, rfl, hc⟩ := two_cells hv.out (by simp)
  obtain ⟨H, hH⟩ : ∃ H : ByteArray, H = ⟨x.toArray⟩ := ⟨_, rfl⟩
  obtain ⟨N, hN⟩ : ∃ N : ByteArray, N = ⟨y.toArray⟩ := ⟨_, rfl⟩
  have hd0 : w.cell? ⟨g, o, none⟩ = some (.string H) := by rw [hH]; exact hc 0 (by simp)
  have hd1 : w.cell? ⟨g, o + 1, none⟩ = some (.string N) := by rw [hN]; exact hc 1 (by simp)
  have hh' : Hid (headD H.data.toList = h) := Lib.hid (by rw [hH]; exact hh.out)
  have c0 := ((Keeps.refl (fun _ => False) w).alloc (.cells #[.int .i64 0, .string ⟨#[]⟩, .string ⟨#[]⟩, .string ⟨#[]⟩] 50)).cell0 hd0
  have c1 := ((Keeps.refl (fun _ => False) w).alloc (.cells #[.int .i64 0, .string ⟨#[]⟩, .string ⟨#[]⟩, .string ⟨#[]⟩] 50)).cell0 hd1
  have hn' : Hid (namedB h N.data.toList = false) := Lib.hid (by rw [hN]; exact hn.out)
  have hNs : N.size ≤ 9223372036854775807 := by rw [hN]; exact hy
  obtain ⟨W0, hW0⟩ : ∃ W0, W0 = (w.alloc (.cells #[.int .i64 0, .string ⟨#[]⟩, .string ⟨#[]⟩, .string ⟨#[]⟩] 50)).alloc (.cells #[.int .i64 h, .string N, .string ⟨#[]⟩, .string ⟨#[]⟩] 50) := ⟨_, rfl⟩
  have hBr : Hid (BlkAt W0 w.heap.size 50 [.int .i64 0, .string ⟨#[]⟩, .string ⟨#[]⟩, .string ⟨#[]⟩]) := Lib.hid (by rw [hW0]; exact (BlkAt.new w 50 [.int .i64 0, .string ⟨#[]⟩, .string ⟨#[]⟩, .string ⟨#[]⟩]).alloc _)
  have hBl : Hid (BlkAt W0 (w.heap.size + 1) 50 [.int .i64 h, .string N, .string ⟨#[]⟩, .string ⟨#[]⟩]) := Lib.hid (by
    have := BlkAt.new (w.alloc (.cells #[.int .i64 0, .string ⟨#[]⟩, .string ⟨#[]⟩, .string ⟨#[]⟩] 50)) 50 [.int .i64 h, .string N, .string ⟨#[]⟩, .string ⟨#[]⟩]
    rw [hW0]; simpa using this)
  have hK : Hid (Keeps (fun _ => False) w W0) := Lib.hid (by rw [hW0]; exact ((Keeps.refl _ _).alloc _).alloc _)
  have hW0' := Lib.hid hW0
  clear hW0 hv hc hH hN hh hd0 hd1 hn hy
  go_enter Tryz.func93, Tryz.ntmps93
  go_wp2_with fail
  refine (headOf_r H h true _ hh' hz).mono ?_
  rintro e w2 ⟨rfl, rfl⟩
  go_upto_region 9 with ((with_reducible refine at_store 7 ?_); refine wpList_store_new rfl 50 (.tmp 7) (.tmp 33) rfl _ #[.int .i64 h, .string N, .string ⟨#[]⟩, .string ⟨#[]⟩] rfl rfl lineInfo rfl (line_one _ _ _ _) ?_)
  rw [← hW0'.out]
  have cN := hBl.out.cell 1 _ rfl
  clear hW0' c0 c1
  go_wp2_with fail
  refine (named_any h N false _ hNs hn').mono ?_
  rintro e w2 ⟨rfl, m2, rfl⟩
  clear cN
  go_wp2_with ((with_reducible refine at_store 2 ?_); refine wpList_store_blk rfl 50 (.tmp 2) (.tmp 43) rfl w.heap.size #[.int .i64 0, .string ⟨#[]⟩, .string ⟨#[]⟩, .string ⟨#[]⟩] rfl rfl (BlkAt.there (hBr.out.keep ((Keeps.refl (fun _ => False) _).drewN _) id) 0 4 (Nat.le_refl 4)) lineInfo (line_one _ _ _ _) ?_; intro w9 hr9 hs9)
  refine bodyPost_ret (v := .tuple #[.agg #[.int .i64 0, .string ⟨#[]⟩, .string ⟨#[]⟩, .string ⟨#[]⟩], .bool false]) (ret_cell_tmp Tryz.results93 _ _ w.heap.size [.int .i64 0, .string ⟨#[]⟩, .string ⟨#[]⟩, .string ⟨#[]⟩] _ rfl hr9.out Tryz.underlying50 rfl lineInfo) rfl ⟨_, _, _, rfl, (hK.out.drewN _).trans' hs9.out (fun i e => .inr (by omega)), fun _ h => by cases h⟩
set_option maxRecDepth 100000 in
set_option maxHeartbeats 1000000 in
theorem path3_ok (v : Value) (x y l : List UInt8) (h : Int) (r : Bool) (w : World) (hv : Hid (StrsAt w v [x, y, l])) (hy : y.length ≤ 9223372036854775807) (hh : Hid (headD x = h)) (hz : Hid (decide (h ≠ 0) = true)) (hn : Hid (namedB h y = true)) (hr : Hid ((findD h l).isSome = r)) :
    Calls Tryz.prog 93 #[v] w fun e w' => e = .returned (.tuple #[.agg #[.int .i64 h, .string ⟨y.toArray⟩, .string ⟨l.toArray⟩, .string ⟨#[]⟩], .bool r]) ∧ Keeps (fun _ => False) w w' := by
  obtain ⟨g, o, c, rfl, hc⟩ := two_cells hv.out (by simp)
  obtain ⟨H, hH⟩ : ∃ H : ByteArray, H = ⟨x.toArray⟩ := ⟨_, rfl⟩
  obtain ⟨N, hN⟩ : ∃ N : ByteArray, N = ⟨y.toArray⟩ := ⟨_, rfl⟩
  have hd0 : w.cell? ⟨g, o, none⟩ = some (.string H) := by rw [hH]; exact hc 0 (by simp)
  have hd1 : w.cell? ⟨g, o + 1, none⟩ = some (.string N) := by rw [hN]; exact hc 1 (by simp)
  have hh' : Hid (headD H.data.toList = h) := Lib.hid (by rw [hH]; exact hh.out)
  have c0 := ((Keeps.refl (fun _ => False) w).alloc (.cells #[.int .i64 0, .string ⟨#[]⟩, .string ⟨#[]⟩, .string ⟨#[]⟩] 50)).cell0 hd0
  have c1 := ((Keeps.refl (fun _ => False) w).alloc (.cells #[.int .i64 0, .string ⟨#[]⟩, .string ⟨#[]⟩, .string ⟨#[]⟩] 50)).cell0 hd1
  obtain ⟨L, hL⟩ : ∃ L : ByteArray, L = ⟨l.toArray⟩ := ⟨_, rfl⟩
  have hd2 : w.cell? ⟨g, o + 2, none⟩ = some (.string L) := by rw [hL]; exact hc 2 (by simp)
  have hr' : Hid ((findD h L.data.toList).isSome = r) := Lib.hid (by rw [hL]; exact hr.out)
  rw [← hL]
  rw [← hN]
  have hn' : Hid (namedB h N.data.toList = true) := Lib.hid (by rw [hN]; exact hn.out)
  have hNs : N.size ≤ 9223372036854775807 := by rw [hN]; exact hy
  obtain ⟨W0, hW0⟩ : ∃ W0, W0 = (w.alloc (.cells #[.int .i64 0, .string ⟨#[]⟩, .string ⟨#[]⟩, .string ⟨#[]⟩] 50)).alloc (.cells #[.int .i64 h, .string N, .string ⟨#[]⟩, .string ⟨#[]⟩] 50) := ⟨_, rfl⟩
  have hBr : Hid (BlkAt W0 w.heap.size 50 [.int .i64 0, .string ⟨#[]⟩, .string ⟨#[]⟩, .string ⟨#[]⟩]) := Lib.hid (by rw [hW0]; exact (BlkAt.new w 50 [.int .i64 0, .string ⟨#[]⟩, .string ⟨#[]⟩, .string ⟨#[]⟩]).alloc _)
  have hBl : Hid (BlkAt W0 (w.heap.size + 1) 50 [.int .i64 h, .string N, .string ⟨#[]⟩, .string ⟨#[]⟩]) := Lib.hid (by
    have := BlkAt.new (w.alloc (.cells #[.int .i64 0, .string ⟨#[]⟩, .string ⟨#[]⟩, .string ⟨#[]⟩] 50)) 50 [.int .i64 h, .string N, .string ⟨#[]⟩, .string ⟨#[]⟩]
    rw [hW0]; simpa using this)
  have hK : Hid (Keeps (fun _ => False) w W0) := Lib.hid (by rw [hW0]; exact ((Keeps.refl _ _).alloc _).alloc _)
  have hW0' := Lib.hid hW0
  have c2 : Hid (W0.cell? ⟨g, o + 2, none⟩ = some (.string L)) := Lib.hid (hK.out.cell0 hd2)
  clear hW0 hv hc hH hN hh hd0 hd1 hn hy hL hr hd2
  go_enter Tryz.func93, Tryz.ntmps93
  go_wp2_with fail
  refine (headOf_r H h true _ hh' hz).mono ?_
  rintro e w2 ⟨rfl, rfl⟩
  go_upto_region 9 with ((with_reducible refine at_store 7 ?_); refine wpList_store_new rfl 50 (.tmp 7) (.tmp 33) rfl _ #[.int .i64 h, .string N, .string ⟨#[]⟩, .string ⟨#[]⟩] rfl rfl lineInfo rfl (line_one _ _ _ _) ?_)
  rw [← hW0'.out]
  have cN := hBl.out.cell 1 _ rfl
  clear hW0' c0 c1
  go_wp2_with fail
  refine (named_any h N true _ hNs hn').mono ?_
  rintro e w2 ⟨rfl, m2, rfl⟩
  clear cN
  obtain ⟨W3, hW3⟩ : ∃ W3, W3 = (W0.drewN m2).setCell ⟨w.heap.size + 1, 2, none⟩ (.string L) := ⟨_, rfl⟩
  have hkd : Keeps (fun _ => False) W0 (W0.drewN m2) := (Keeps.refl _ _).drewN _
  have c2d : (W0.drewN m2).cell? ⟨g, o + 2, none⟩ = some (.string L) := hkd.cell0 c2.out
  have k3 : Keeps (fun i => i = w.heap.size + 1) W0 W3 := by rw [hW3]; exact Keeps.setCell (F := fun i => i = w.heap.size + 1) (p := ⟨w.heap.size + 1, 2, none⟩) (hkd.mono (fun _ f => f.elim)) (.inl rfl) _
  have cF := (hBl.out.keep hkd id).cell 2 _ rfl
  have fF := (hBl.out.keep hkd id).frozen 2
  have hBr := Lib.hid (hBr.out.keep k3 (by omega))
  have hBl : Hid (BlkAt W3 (w.heap.size + 1) 50 [.int .i64 h, .string N, .string L, .string ⟨#[]⟩]) := Lib.hid (by rw [hW3]; exact (hBl.out.keep hkd id).set 2 _)
  have hK := Lib.hid (hK.out.trans' k3 (fun i e => .inr (by omega)))
  have hW3' := Lib.hid hW3
  clear hW3 hkd k3 c2
  go_upto_region 14 with fail
  rw [← hW3'.out]
  clear hW3' c2d cF fF
  refine wp_region_noPanic ?_
  refine wp_region_held_drew (S := (fun W => Keeps (fun i => i = w.heap.size) W3 W)) (by kernel_rfl) (((Keeps.refl _ _).drew)) (fun hHeld => ?_)
  refine tkL 0 rfl (yieldsIf_load_mid (by rfl) 50 (.tmp 7) rfl (w.heap.size + 1) 0 rfl [.int .i64 h, .string N, .string L, .string ⟨#[]⟩] _ (fun _ s => (hBl.out.keep s (by omega)).range) Tryz.underlying50 rfl lineInfo) ?_
  refine tkL 1 rfl (yieldsIf_load_mid (by rfl) 50 (.tmp 7) rfl (w.heap.size + 1) 0 rfl [.int .i64 h, .string N, .string L, .string ⟨#[]⟩] _ (fun _ s => (hBl.out.keep s (by omega)).range) Tryz.underlying50 rfl lineInfo) ?_
  refine stepL 2 rfl (by kernel_rfl) (fun K hK => ?_)
  go_simp
  (refine (hasRow_any h _ L _ r _ hr').mono ?_; rintro e w2 ⟨rfl, hk2⟩; have hb2 := Lib.hid (hBr.out.keep (((Keeps.refl (fun _ => False) W3).drew).trans hk2) id); have hk2' := Lib.hid hk2; clear hk2)
  go_wp2_with fail
  refine hK.out _ _ ((hHeld.trans' hk2'.out (fun _ f => f.elim))) (fun hHeld => ?_)
  clear hK K
  try simp only [Act.put, sA, sZ, sS]
  refine stepL 3 rfl (by kernel_rfl) (fun K hK => ?_)
  rw [if_pos (by rfl)]
  (refine wp_store_mid 50 (.tmp 2) (.tmp 52) rfl w.heap.size 0 #[.int .i64 h, .string N, .string L, .string ⟨#[]⟩] rfl rfl (hb2.out.there 0 4 (Nat.le_refl 4)) lineInfo (line_one _ _ _ _) ?_; have hs9 : Keeps (fun i => i = w.heap.size) w2 (w2.setCells w.heap.size 0 [.int .i64 h, .string N, .string L, .string ⟨#[]⟩]) := Keeps.setCells (F := fun i => i = w.heap.size) (.inl rfl) _ _ _ (Keeps.refl _ _); have hr9 : (w2.setCells w.heap.size 0 [.int .i64 h, .string N, .string L, .string ⟨#[]⟩]).rangeAt w.heap.size 0 [.int .i64 h, .string N, .string L, .string ⟨#[]⟩] := World.rangeAt_setCells_same _ _ _ _ (hb2.out.there 0 4 (Nat.le_refl 4)); simp only [] at hs9 hr9 ⊢; generalize w2.setCells w.heap.size 0 [.int .i64 h, .string N, .string L, .string ⟨#[]⟩] = w9 at hs9 hr9 ⊢)
  refine hK.out _ _ ((hHeld.trans' hs9 (fun i e => .inl e))) (fun hHeld => ?_)
  clear hK K
  try simp only [Act.put, sA, sZ, sS]
  refine tk 4 rfl ?_
  refine wpAnyH_done (by kernel_rfl) (NoPanic.normal ?_) _
  have hw9 := Lib.hid hHeld; have hr9 := Lib.hid hr9; clear hHeld hs9
  go_wp2_with fail
  refine bodyPost_ret (v := .tuple #[.agg #[.int .i64 h, .string N, .string L, .string ⟨#[]⟩], .bool r]) (ret_cell_tmp Tryz.results93 _ _ w.heap.size [.int .i64 h, .string N, .string L, .string ⟨#[]⟩] _ rfl hr9.out Tryz.underlying50 rfl lineInfo) rfl ⟨rfl, ?_⟩
  exact hK.out.trans' hw9.out (fun i e => .inr (by omega))
theorem path_any (v : Value) (ws : List (List UInt8)) (f : Option (Int × List UInt8 × List UInt8)) (w : World) (hv : Hid (StrsAt w v ws)) (hs : ∀ x ∈ ws, x.length ≤ 9223372036854775807) (hf : Hid (pathD ws = f)) :
    Calls Tryz.prog 93 #[v] w (PathPost f w) := by
  obtain ⟨f0, hf0⟩ : ∃ f0, f0 = f := ⟨_, rfl⟩
  match ws, hv, hs, hf with
  | [], hv, _, hf =>
    obtain ⟨p, c, rfl, _⟩ := hv.out
    rw [← hf.out]; exact path_no p 0 c w (.inl rfl)
  | [l], hv, _, hf =>
    refine (path_one v l _ w hv (Lib.hid rfl)).mono fun e w' ⟨he, hk⟩ => ⟨0, ⟨#[]⟩, ⟨l.toArray⟩, ?_, hk, ?_⟩
    · rw [he, ← hf.out, path1]; cases findD 0 l <;> rfl
    · rw [← hf.out, path1]
      intro x hx
      split at hx
      · injection hx with hx; subst hx; exact ⟨rfl, rfl, rfl⟩
      · cases hx
  | [x, y], hv, hs, hf =>
    have hy := hs y (by simp)
    have hq := hf.out
    rw [path2] at hq
    by_cases h0 : headD x = 0
    · rw [if_neg (by simp [h0])] at hq; rw [← hq]; exact path2_nohead v x y w hv (Lib.hid h0)
    · by_cases hn : namedB (headD x) y = true
      · rw [if_pos ⟨h0, hn⟩] at hq
        refine (path2_ok v x y (headD x) w hv hy (Lib.hid rfl) (Lib.hid (by simpa using h0)) (Lib.hid hn)).mono fun e w' ⟨he, hk⟩ => ⟨headD x, ⟨y.toArray⟩, ⟨#[]⟩, ?_, hk, ?_⟩
        · rw [he, ← hq]; rfl
        · rw [← hq]; intro z hz; injection hz with hz; subst hz; exact ⟨rfl, rfl, rfl⟩
      · rw [if_neg (by simp [hn])] at hq; rw [← hq]; exact path2_noname v x y _ w hv hy (Lib.hid rfl) (Lib.hid (by simpa using h0)) (Lib.hid (by simpa using hn))
  | [x, y, l], hv, hs, hf =>
    have hy := hs y (by simp)
    have hq := hf.out
    rw [path3] at hq
    by_cases h0 : headD x = 0
    · rw [if_neg (by simp [h0])] at hq; rw [← hq]; exact path3_nohead v x y l w hv (Lib.hid h0)
    · by_cases hn : namedB (headD x) y = true
      · rw [if_pos ⟨h0, hn⟩] at hq
        refine (path3_ok v x y l (headD x) _ w hv hy (Lib.hid rfl) (Lib.hid (by simpa using h0)) (Lib.hid hn) (Lib.hid rfl)).mono fun e w' ⟨he, hk⟩ => ⟨headD x, ⟨y.toArray⟩, ⟨l.toArray⟩, ?_, hk, ?_⟩
        · rw [he, ← hq]; cases findD (headD x) l <;> rfl
        · rw [← hq]; intro z hz
          split at hz
          · injection hz with hz; subst hz; exact ⟨rfl, rfl, rfl⟩
          · cases hz
      · rw [if_neg (by simp [hn])] at hq; rw [← hq]; exact path3_noname v x y l _ w hv hy (Lib.hid rfl) (Lib.hid (by simpa using h0)) (Lib.hid (by simpa using hn))
  | a :: b :: c :: d :: r, hv, _, hf =>
    obtain ⟨p, k, rfl, _⟩ := hv.out
    rw [← hf.out]; exact path_no p _ k w (.inr (by simp))

/-! a number -/
theorem num_any (v : Value) (ws : List (List UInt8)) (lo hi : Int) (w : World) (hv : Hid (StrsAt w v ws)) :
    Calls Tryz.prog 94 #[v, .int .i64 lo, .int .i64 hi] w fun e w' => ∃ n : Int, e = .returned (.tuple #[.int .i64 n, .bool (numD ws lo hi).isSome]) ∧ w = w' ∧ ∀ m, numD ws lo hi = some m → n = m := by
  by_cases hl : ws.length = 1
  · obtain ⟨x, rfl⟩ := List.length_eq_one_iff.1 hl
    rw [num1]
    obtain ⟨g, o, c, rfl, hc⟩ := two_cells hv.out (by simp)
    obtain ⟨X, hX⟩ : ∃ X : ByteArray, X = ⟨x.toArray⟩ := ⟨_, rfl⟩
    have c0 : w.cell? ⟨g, o, none⟩ = some (.string X) := by rw [hX]; exact hc 0 (by simp)
    have hxe : X.data.toList = x := by rw [hX]
    clear hX hc hv hl
    cases hd : decL x with
    | none =>
      have hd' : Hid (decL X.data.toList = none) := Lib.hid (by rw [hxe]; exact hd)
      clear hxe hd
      refine Calls.mono (R := fun e w' => e = .returned (.tuple #[.int .i64 0, .bool false]) ∧ w = w') ?_ fun e w' ⟨he, hw⟩ => ⟨0, he, hw, fun _ h => by cases h⟩
      go_enter Tryz.func94, Tryz.ntmps94
      go_wp2_with fail
      refine (dec_none X _ hd').mono ?_
      rintro e w2 ⟨rfl, rfl⟩
      go_wp2
      go_ret2
      exact ⟨rfl, rfl⟩
    | some n =>
      have hd' : Hid (decL X.data.toList = some n) := Lib.hid (by rw [hxe]; exact hd)
      clear hxe hd
      by_cases h1 : lo ≤ (n : Int)
      · by_cases h2 : (n : Int) ≤ hi
        · simp only [h1, h2, and_self, if_true]
          refine Calls.mono (R := fun e w' => e = .returned (.tuple #[.int .i64 n, .bool true]) ∧ w = w') ?_ fun e w' ⟨he, hw⟩ => ⟨n, he, hw, fun _ h => by injection h⟩
          go_enter Tryz.func94, Tryz.ntmps94
          go_wp2_with fail
          refine (dec_some X n _ hd').mono ?_
          rintro e w2 ⟨rfl, rfl⟩
          go_wp2
          go_ret2
          exact ⟨rfl, rfl⟩
        · simp only [h1, h2, and_false, if_false]
          have e2 : decide ((n : Int) ≤ hi) = false := by simpa using h2
          refine Calls.mono (R := fun e w' => e = .returned (.tuple #[.int .i64 n, .bool false]) ∧ w = w') ?_ fun e w' ⟨he, hw⟩ => ⟨n, he, hw, fun _ h => by cases h⟩
          go_enter Tryz.func94, Tryz.ntmps94
          go_wp2_with fail
          refine (dec_some X n _ hd').mono ?_
          rintro e w2 ⟨rfl, rfl⟩
          go_wp2
          go_ret2
          exact ⟨rfl, rfl⟩
      · simp only [h1, false_and, if_false]
        have e2 : decide (lo ≤ (n : Int)) = false := by simpa using h1
        refine Calls.mono (R := fun e w' => e = .returned (.tuple #[.int .i64 n, .bool false]) ∧ w = w') ?_ fun e w' ⟨he, hw⟩ => ⟨n, he, hw, fun _ h => by cases h⟩
        go_enter Tryz.func94, Tryz.ntmps94
        go_wp2_with fail
        refine (dec_some X n _ hd').mono ?_
        rintro e w2 ⟨rfl, rfl⟩
        go_wp2
        go_ret2
        exact ⟨rfl, rfl⟩
  · rw [num_len hl]
    obtain ⟨p, c, rfl, _⟩ := hv.out
    refine Calls.mono (R := fun e w' => e = .returned (.tuple #[.int .i64 0, .bool false]) ∧ w = w') ?_ fun e w' ⟨he, hw⟩ => ⟨0, he, hw, fun _ h => by cases h⟩
    have e1 : ((ws.length : Int) != 1) = true := by rw [bne_iff_ne]; omega
    have f1 : (ws.length == 1) = false := by simpa using hl
    clear hv hl
    go_enter Tryz.func94, Tryz.ntmps94
    go_wp2
    go_ret2
    exact ⟨rfl, rfl⟩
end Go.Proofs.YtdannodhlaaoiaaGreatDoor
