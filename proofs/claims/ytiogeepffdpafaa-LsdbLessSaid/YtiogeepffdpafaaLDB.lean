/- A Db of bare Lsas (without lists), in memory: New, clone, headOf, isNewer. -/
import Derived.Test.YtiogeepffdpafaaLDA
namespace Go.Proofs.Ytiogeepffdpafaa
open Go.RowKit

/-- an Lsa without lists, as a value -/
def bareV (m : LsaD) : Value := .agg #[.int .i64 m.age, .int .i64 m.type, .int .u32 m.id, .int .u32 m.adv, .int .i64 m.seq, .slice none 0 0, .int .u32 m.mask, .slice none 0 0, .int .i64 m.cost]
def bareL (m : LsaD) : List Value := [.int .i64 m.age, .int .i64 m.type, .int .u32 m.id, .int .u32 m.adv, .int .i64 m.seq, .slice none 0 0, .int .u32 m.mask, .slice none 0 0, .int .i64 m.cost]
structure Bare (m : LsaD) : Prop where
  links : m.links = []
  routers : m.routers = []
  can : canB m = true
  id : m.id < 4294967296
  adv : m.adv < 4294967296
  mask : m.mask < 4294967296
theorem slClLinks_nil (w : World) : Calls Try.prog 121 #[.slice none 0 0] w fun e w' => e = .returned (.slice none 0 0) ∧ w = w' := by
  have he : (binOp .eql 34 (.slice none 0 0) (.slice none 0 0)).run Try.prog w = .ok (.bool true) w := by simp [binOp, run_equal_slice_nil w 34 _ none 0 0 Try.underlying34]
  go_enter Try.func121, Try.ntmps121
  go_wp2_with fail
  go_ret
  exact ⟨rfl, rfl⟩
theorem slClU32_nil (w : World) : Calls Try.prog 122 #[.slice none 0 0] w fun e w' => e = .returned (.slice none 0 0) ∧ w = w' := by
  have he : (binOp .eql 26 (.slice none 0 0) (.slice none 0 0)).run Try.prog w = .ok (.bool true) w := by simp [binOp, run_equal_slice_nil w 26 _ none 0 0 Try.underlying26]
  go_enter Try.func122, Try.ntmps122
  go_wp2_with fail
  go_ret
  exact ⟨rfl, rfl⟩
set_option maxRecDepth 100000 in
set_option maxHeartbeats 1000000 in
theorem ldClone_bare (m : LsaD) (w : World) : Calls Try.prog 85 #[bareV m] w fun e w' => e = .returned (bareV m) ∧ Keeps (fun _ => False) w w' := by
  obtain ⟨cs, hcs⟩ : ∃ cs, cs = bareL m := ⟨_, rfl⟩
  have hcs' := Lib.hid hcs
  obtain ⟨W0, hW0⟩ : ∃ W0, W0 = (w.alloc (.cells #[.int .i64 m.age, .int .i64 m.type, .int .u32 m.id, .int .u32 m.adv, .int .i64 m.seq, .slice none 0 0, .int .u32 m.mask, .slice none 0 0, .int .i64 m.cost] 36)).alloc (.cells #[.int .i64 0, .int .i64 0, .int .u32 0, .int .u32 0, .int .i64 0, .slice none 0 0, .int .u32 0, .slice none 0 0, .int .i64 0] 36) := ⟨_, rfl⟩
  have hB : Hid (BlkAt W0 w.heap.size 36 cs) := Lib.hid (by rw [hW0, hcs]; exact (BlkAt.new w 36 (bareL m)).alloc _)
  have hR : Hid (BlkAt W0 (w.heap.size + 1) 36 [.int .i64 0, .int .i64 0, .int .u32 0, .int .u32 0, .int .i64 0, .slice none 0 0, .int .u32 0, .slice none 0 0, .int .i64 0]) := Lib.hid (by
    have := BlkAt.new (w.alloc (.cells #[.int .i64 m.age, .int .i64 m.type, .int .u32 m.id, .int .u32 m.adv, .int .i64 m.seq, .slice none 0 0, .int .u32 m.mask, .slice none 0 0, .int .i64 m.cost] 36)) 36 [.int .i64 0, .int .i64 0, .int .u32 0, .int .u32 0, .int .i64 0, .slice none 0 0, .int .u32 0, .slice none 0 0, .int .i64 0]
    rw [hW0]; simpa using this)
  have hK : Hid (Keeps (fun _ => False) w W0) := Lib.hid (by rw [hW0]; exact ((Keeps.refl _ _).alloc _).alloc _)
  have hW0' := Lib.hid hW0
  clear hcs hW0
  unfold bareV
  go_enter Try.func85, Try.ntmps85
  go_upto_region 1 with fail
  rw [← hW0'.out]
  refine wp_region_noPanic ?_
  refine wp_region_held_drew (S := (fun W => Keeps (fun k => k = w.heap.size) W0 W ∧ BlkAt W w.heap.size 36 cs)) (by kernel_rfl) (⟨(Keeps.refl _ _).drew, hB.out⟩) (fun hHeld => ?_)
  refine takeL 0 (v := ?_) rfl (by kernel_rfl) (by kernel_rfl) (by kernel_rfl) (fun _ _ _ h => h) (Or.inl ⟨by rfl, ?_⟩) (by assumption) ?_
  rotate_left
  · (intro wS hSw; go_simp; try with_reducible rfl)
  try simp only [Act.put, List.setIfInBounds_toArray, List.set_cons_zero, List.set_cons_succ]
  refine takeL 1 rfl (by kernel_rfl) (by kernel_rfl) (by kernel_rfl) (fun _ _ _ h => h) (yieldsIf_load_cell (by rfl) 34 (.tmp 3) rfl w.heap.size 5 rfl _ (fun _ s => s.2.cell 5 (.slice none 0 0) (by rw [hcs'.out]; rfl)) (fun w s => load_links w _ _ _ s)) (by assumption) ?_
  try simp only [Act.put, List.setIfInBounds_toArray, List.set_cons_zero, List.set_cons_succ]
  refine takeL 3 (v := ?_) rfl (by kernel_rfl) (by kernel_rfl) (by kernel_rfl) (fun _ _ _ h => h) (Or.inl ⟨by rfl, ?_⟩) (by assumption) ?_
  rotate_left
  · (intro wS hSw; go_simp; try with_reducible rfl)
  try simp only [Act.put, List.setIfInBounds_toArray, List.set_cons_zero, List.set_cons_succ]
  refine takeL 4 rfl (by kernel_rfl) (by kernel_rfl) (by kernel_rfl) (fun _ _ _ h => h) (yieldsIf_load_cell (by rfl) 26 (.tmp 6) rfl w.heap.size 7 rfl _ (fun _ s => s.2.cell 7 (.slice none 0 0) (by rw [hcs'.out]; rfl)) (fun w s => load_u32s w _ _ _ s)) (by assumption) ?_
  try simp only [Act.put, List.setIfInBounds_toArray, List.set_cons_zero, List.set_cons_succ]
  refine stepL 2 rfl (by kernel_rfl) (fun K hK => ?_)
  go_simp
  (refine (slClLinks_nil _).mono ?_; rintro e w' ⟨rfl, rfl⟩)
  go_wp2_with fail
  refine hK.out _ _ (hHeld) (fun hHeld => ?_)
  clear hK K
  try simp only [Act.put, List.setIfInBounds_toArray, List.set_cons_zero, List.set_cons_succ]
  refine takeL 6 (v := ?_) rfl (by kernel_rfl) (by kernel_rfl) (by kernel_rfl) (fun _ _ _ h => h) (Or.inl ⟨by rfl, ?_⟩) (by assumption) ?_
  rotate_left
  · (intro wS hSw; go_simp; try with_reducible rfl)
  try simp only [Act.put, List.setIfInBounds_toArray, List.set_cons_zero, List.set_cons_succ]
  refine stepL 5 rfl (by kernel_rfl) (fun K hK => ?_)
  go_simp
  (refine (slClU32_nil _).mono ?_; rintro e w' ⟨rfl, rfl⟩)
  go_wp2_with fail
  refine hK.out _ _ (hHeld) (fun hHeld => ?_)
  clear hK K
  try simp only [Act.put, List.setIfInBounds_toArray, List.set_cons_zero, List.set_cons_succ]
  have hc5 : W0.drew.cell? ⟨w.heap.size, 5, none⟩ = some (.slice none 0 0) := hHeld.2.cell 5 (.slice none 0 0) (by rw [hcs'.out]; rfl)
  have hf5 : W0.drew.frozen? ⟨w.heap.size, 5, none⟩ = false := hHeld.2.frozen 5
  have hB5 : BlkAt (W0.drew.setCell ⟨w.heap.size, 5, none⟩ (.slice none 0 0)) w.heap.size 36 cs := by
    have := hHeld.2.set 5 (.slice none 0 0)
    rw [hcs'.out] at this; rw [hcs'.out]; exact this
  refine stepL 7 rfl (by kernel_rfl) (fun K hK => ?_)
  go_simp
  refine hK.out _ _ (⟨hHeld.1.setCell (.inl rfl) _, hB5⟩) (fun hHeld => ?_)
  clear hK K
  try simp only [Act.put, List.setIfInBounds_toArray, List.set_cons_zero, List.set_cons_succ]
  refine takeL 8 (v := ?_) rfl (by kernel_rfl) (by kernel_rfl) (by kernel_rfl) (fun _ _ _ h => h) (Or.inl ⟨by rfl, ?_⟩) (by assumption) ?_
  rotate_left
  · (intro wS hSw; go_simp; try with_reducible rfl)
  try simp only [Act.put, List.setIfInBounds_toArray, List.set_cons_zero, List.set_cons_succ]
  have hc7 := hHeld.2.cell 7 (.slice none 0 0) (by rw [hcs'.out]; rfl)
  have hf7 := hHeld.2.frozen 7
  have hB7 : BlkAt ((W0.drew.setCell ⟨w.heap.size, 5, none⟩ (.slice none 0 0)).setCell ⟨w.heap.size, 7, none⟩ (.slice none 0 0)) w.heap.size 36 cs := by
    have := hHeld.2.set 7 (.slice none 0 0)
    rw [hcs'.out] at this; rw [hcs'.out]; exact this
  refine stepL 9 rfl (by kernel_rfl) (fun K hK => ?_)
  go_simp
  refine hK.out _ _ (⟨hHeld.1.setCell (.inl rfl) _, hB7⟩) (fun hHeld => ?_)
  clear hK K
  try simp only [Act.put, List.setIfInBounds_toArray, List.set_cons_zero, List.set_cons_succ]
  refine wpAnyH_done (by kernel_rfl) (NoPanic.normal ?_) _
  have hBe := Lib.hid hHeld.2
  have hKe := Lib.hid hHeld.1
  clear hHeld hc5 hf5 hc7 hf7 hB5 hB7
  obtain ⟨W1, hW1⟩ : ∃ W1, W1 = ((W0.setCell ⟨w.heap.size, 5, none⟩ (.slice none 0 0)).setCell ⟨w.heap.size, 7, none⟩ (.slice none 0 0)).drew := ⟨_, rfl⟩
  rw [← hW1] at hBe hKe ⊢
  clear hW1
  have hR1 := Lib.hid (hR.out.keep hKe.out (by omega))
  go_wp2_with (first | ((with_reducible refine at_slot 11 ?_); refine wpList_load_mid rfl 36 (.tmp 1) rfl w.heap.size 0 rfl [.int .i64 m.age, .int .i64 m.type, .int .u32 m.id, .int .u32 m.adv, .int .i64 m.seq, .slice none 0 0, .int .u32 m.mask, .slice none 0 0, .int .i64 m.cost] _ (BlkAt.rng hBe.out hcs'.out) Try.underlying36 rfl lsaInfo ?_) | ((with_reducible refine at_store 2 ?_); refine wpList_store_blk rfl 36 (.tmp 2) (.tmp 11) rfl (w.heap.size + 1) #[.int .i64 m.age, .int .i64 m.type, .int .u32 m.id, .int .u32 m.adv, .int .i64 m.seq, .slice none 0 0, .int .u32 m.mask, .slice none 0 0, .int .i64 m.cost] rfl rfl (BlkAt.there hR1.out 0 9 (Nat.le_refl 9)) lsaInfo (lsa_one _ _ _ _ _ _ _ _ _ (slice_one _ _ _) (slice_one _ _ _)) ?_; intro w9 hr9 hs9))
  have c0 := rangeAt_cell hr9.out 0 (.int .i64 m.age) rfl
  have c1 := rangeAt_cell hr9.out 1 (.int .i64 m.type) rfl
  have c2 := rangeAt_cell hr9.out 2 (.int .u32 m.id) rfl
  have c3 := rangeAt_cell hr9.out 3 (.int .u32 m.adv) rfl
  have c4 := rangeAt_cell hr9.out 4 (.int .i64 m.seq) rfl
  have c5 := rangeAt_cell hr9.out 5 (.slice none 0 0) rfl
  have c6 := rangeAt_cell hr9.out 6 (.int .u32 m.mask) rfl
  have c7 := rangeAt_cell hr9.out 7 (.slice none 0 0) rfl
  have c8 := rangeAt_cell hr9.out 8 (.int .i64 m.cost) rfl
  refine bodyPost_ret (v := bareV m) (by simp [results, Try.results85, go_sem, c0, c1, c2, c3, c4, c5, c6, c7, c8, bareV]) rfl ⟨rfl, ?_⟩
  exact (hK.out.trans' hKe.out (fun i e => .inr (by rw [e]; exact Nat.le_refl _))).trans' hs9.out (fun i e => .inr (by rw [e]; omega))
theorem Bare.eta {m : LsaD} (h : Bare m) : m = ⟨m.age, m.type, m.id, m.adv, m.seq, [], m.mask, [], m.cost⟩ := by
  obtain ⟨h1, h2, -, -, -, -⟩ := h
  cases m; simp only at h1 h2; subst h1; subst h2; rfl
/-- the header of an Lsa's bytes -/
def hdD (m : LsaD) : HeadD := headOf (putB m)
theorem putB_len24 (m : LsaD) (h : Bare m) : 24 ≤ (putB m).length ∧ (putB m).length ≤ 504 := by
  have h1 := tellB_len (l := m) (by rw [h.links]; simp) (by rw [h.routers]; simp)
  rw [putB_len]; omega
set_option maxRecDepth 100000 in
set_option maxHeartbeats 1000000 in
theorem ldHeadOf_bare (m : LsaD) (hb : Bare m) (H : HeadD) (hH : Hid (hdD m = H)) (w : World) : Calls Try.prog 86 #[bareV m] w fun e w' => e = .returned (.tuple #[.agg #[.int .i64 H.age, .int .i64 H.type, .int .u32 H.id, .int .u32 H.adv, .int .i64 H.seq, .int .u16 H.sum, .int .i64 H.len], .int .i64 0]) ∧ Keeps (fun _ => False) w w' := by
  have hlen := putB_len24 m hb
  have hbm := Lib.hid hb.eta
  obtain ⟨W0, hW0⟩ : ∃ W0, W0 = (w.alloc (.cells #[.int .i64 m.age, .int .i64 m.type, .int .u32 m.id, .int .u32 m.adv, .int .i64 m.seq, .slice none 0 0, .int .u32 m.mask, .slice none 0 0, .int .i64 m.cost] 36)).alloc (.cells #[.int .i64 0, .int .i64 0, .int .u32 0, .int .u32 0, .int .i64 0, .int .u16 0, .int .i64 0] 45) := ⟨_, rfl⟩
  have hB : Hid (BlkAt W0 w.heap.size 36 [.int .i64 m.age, .int .i64 m.type, .int .u32 m.id, .int .u32 m.adv, .int .i64 m.seq, .slice none 0 0, .int .u32 m.mask, .slice none 0 0, .int .i64 m.cost]) := Lib.hid (by rw [hW0]; exact (BlkAt.new w 36 (bareL m)).alloc _)
  have hR : Hid (BlkAt W0 (w.heap.size + 1) 45 [.int .i64 0, .int .i64 0, .int .u32 0, .int .u32 0, .int .i64 0, .int .u16 0, .int .i64 0]) := Lib.hid (by
    have := BlkAt.new (w.alloc (.cells #[.int .i64 m.age, .int .i64 m.type, .int .u32 m.id, .int .u32 m.adv, .int .i64 m.seq, .slice none 0 0, .int .u32 m.mask, .slice none 0 0, .int .i64 m.cost] 36)) 45 [.int .i64 0, .int .i64 0, .int .u32 0, .int .u32 0, .int .i64 0, .int .u16 0, .int .i64 0]
    rw [hW0]; simpa using this)
  have hK : Hid (Keeps (fun _ => False) w W0) := Lib.hid (by rw [hW0]; exact ((Keeps.refl _ _).alloc _).alloc _)
  have hW0' := Lib.hid hW0
  clear hW0
  have hlink := Lib.hid (LinksAt.nil W0)
  have hnum : Hid (NumsAt W0 (.slice none 0 0) []) := Lib.hid ⟨none, 0, rfl, fun _ => rfl, Nat.le_refl _, fun h => by simp at h⟩
  have hcan : Hid (canB ⟨m.age, m.type, m.id, m.adv, m.seq, [], m.mask, [], m.cost⟩ = true) := Lib.hid (by rw [← hb.eta]; exact hb.can)
  unfold bareV
  go_enter Try.func86, Try.ntmps86
  go_upto_region 1 with fail
  rw [← hW0'.out]
  go_wp2_with ((with_reducible refine at_slot 7 ?_); refine wpList_load_mid rfl 36 (.tmp 1) rfl w.heap.size 0 rfl _ _ hB.out.range Try.underlying36 rfl lsaInfo ?_)
  refine (lsPut_yes m.age m.type m.seq m.cost m.id m.adv m.mask [] [] none none 0 0 _ hlink hnum (Lib.hid (by simp)) (Lib.hid (by intro x hx; simp at hx)) hb.id hb.adv hb.mask hcan).mono ?_
  rintro e w2 ⟨p, c, rfl, ho, k2⟩
  rw [← hbm.out] at ho ⊢
  have hH2 : Hid (headOf (putB m) = H) := Lib.hid hH.out
  obtain ⟨X, hX⟩ : ∃ X, putB m = X := ⟨_, rfl⟩
  rw [hX] at ho hlen hH2 ⊢
  obtain ⟨p', c', ep, -, hc, hr⟩ := ho.bytes
  obtain ⟨g, o, ep2, hrr⟩ := hr (by omega)
  injection ep with e1 e2 e3
  subst e1; subst e3; subst ep2
  have hr' := Lib.hid hrr
  clear hrr
  have hR2 := Lib.hid (hR.out.keep k2 id)
  have hK2 := Lib.hid (hK.out.trans k2)
  have hlen' := Lib.hid hlen
  clear e2 hr k2 ho hX hB hR hK hlink hnum hcan hbm hlen
  go_wp2_with fail
  refine (lsHead_yes g o c X (by have := hlen'.out; omega) (by have := hlen'.out; omega) hc _ hr').mono ?_
  rintro e w3 ⟨rfl, k3⟩
  rw [hH2.out]
  have hR3 := Lib.hid (hR2.out.keep k3 id)
  have hK3 := Lib.hid (hK2.out.trans k3)
  clear k3 hR2 hK2 hH2 hr'
  unfold headV
  go_wp2_with ((with_reducible refine at_store 2 ?_); refine wpList_store_blk rfl 45 (.tmp 2) (.tmp 17) rfl (w.heap.size + 1) #[.int .i64 H.age, .int .i64 H.type, .int .u32 H.id, .int .u32 H.adv, .int .i64 H.seq, .int .u16 H.sum, .int .i64 H.len] rfl rfl (BlkAt.there hR3.out 0 7 (Nat.le_refl 7)) headInfo (head_one _ _ _ _ _ _ _) ?_; intro w9 hr9 hs9)
  have c0 := rangeAt_cell hr9.out 0 (.int .i64 H.age) rfl
  have c1 := rangeAt_cell hr9.out 1 (.int .i64 H.type) rfl
  have c2 := rangeAt_cell hr9.out 2 (.int .u32 H.id) rfl
  have c3 := rangeAt_cell hr9.out 3 (.int .u32 H.adv) rfl
  have c4 := rangeAt_cell hr9.out 4 (.int .i64 H.seq) rfl
  have c5 := rangeAt_cell hr9.out 5 (.int .u16 H.sum) rfl
  have c6 := rangeAt_cell hr9.out 6 (.int .i64 H.len) rfl
  refine bodyPost_ret (v := .tuple #[.agg #[.int .i64 H.age, .int .i64 H.type, .int .u32 H.id, .int .u32 H.adv, .int .i64 H.seq, .int .u16 H.sum, .int .i64 H.len], .int .i64 0]) (by simp [results, Try.results86, go_sem, c0, c1, c2, c3, c4, c5, c6]) rfl ⟨rfl, ?_⟩
  exact hK3.out.trans' hs9.out (fun i e => .inr (by rw [e]; omega))
end Go.Proofs.Ytiogeepffdpafaa
