/- lsdb.Find of bare Lsas, walked (gen_lde.py writes this). -/
import Derived.Test.YtiogeepffdpafaaLDD
namespace Go.Proofs.Ytiogeepffdpafaa
open Go.RowKit

def noneL : LsaD := ⟨0, 0, 0, 0, 0, [], 0, [], 0⟩
def findD (L : List LsaD) (t : Int) (i a : Nat) : LsaD × Bool := match (posK L t i a).bind fun j => L[j]? with
  | some o => (o, true)
  | none => (zeroL, false)
set_option maxRecDepth 100000 in
set_option maxHeartbeats 2000000 in
theorem ldFind_bare (b r : Nat) (L : List LsaD) (t : Int) (i a : Nat) (o : LsaD) (z : Bool) (w : World) (h : Hid (DbAt w b r L)) (hz : Hid (findD L t i a = (o, z))) :
    Calls Try.prog 39 #[.pointer (some ⟨b, 0, none⟩), .agg #[.int .i64 t, .int .u32 i, .int .u32 a]] w fun e w' => e = .returned (.tuple #[bareV o, .bool z]) ∧ Keeps (fun _ => False) w w' := by
  have hlook : Hid (lookV L t i a = .tuple #[.agg #[.int .i64 o.age, .int .i64 o.type, .int .u32 o.id, .int .u32 o.adv, .int .i64 o.seq, .slice none 0 0, .int .u32 o.mask, .slice none 0 0, .int .i64 o.cost], .bool z]) := Lib.hid (by
    have := hz.out
    unfold findD at this
    unfold lookV
    cases hq : (posK L t i a).bind fun j => L[j]? with
    | some q =>
      rw [hq] at this
      injection this with e1 e2; subst e1; subst e2; rfl
    | none =>
      rw [hq] at this
      injection this with e1 e2; subst e1; subst e2; rfl)
  obtain ⟨W0, hW0⟩ : ∃ W0, W0 = (w.alloc (.cells #[.int .i64 t, .int .u32 i, .int .u32 a] 33)).alloc (.cells #[.int .i64 0, .int .i64 0, .int .u32 0, .int .u32 0, .int .i64 0, .slice none 0 0, .int .u32 0, .slice none 0 0, .int .i64 0] 36) := ⟨_, rfl⟩
  have hB : Hid (BlkAt W0 w.heap.size 33 [.int .i64 t, .int .u32 i, .int .u32 a]) := Lib.hid (by rw [hW0]; exact (BlkAt.new w 33 [.int .i64 t, .int .u32 i, .int .u32 a]).alloc _)
  have hR : Hid (BlkAt W0 (w.heap.size + 1) 36 [.int .i64 0, .int .i64 0, .int .u32 0, .int .u32 0, .int .i64 0, .slice none 0 0, .int .u32 0, .slice none 0 0, .int .i64 0]) := Lib.hid (by
    have := BlkAt.new (w.alloc (.cells #[.int .i64 t, .int .u32 i, .int .u32 a] 33)) 36 [.int .i64 0, .int .i64 0, .int .u32 0, .int .u32 0, .int .i64 0, .slice none 0 0, .int .u32 0, .slice none 0 0, .int .i64 0]
    rw [hW0]; simpa using this)
  have hK : Hid (Keeps (fun _ => False) w W0) := Lib.hid (by rw [hW0]; exact ((Keeps.refl _ _).alloc _).alloc _)
  have hD := Lib.hid (h.out.keep hK.out id id)
  have hW0' := Lib.hid hW0
  clear hW0 h
  go_enter Try.func39, Try.ntmps39
  go_upto_region 3 with fail
  rw [← hW0'.out]
  clear hW0'
  refine wp_region_noPanic ?_
  refine wp_region_held_drew (S := (fun W => Keeps (fun _ => False) W0 W)) (by kernel_rfl) (((Keeps.refl (fun _ => False) _).drew)) (fun hHeld => ?_)
  refine takeL 0 (v := ?_) rfl (by kernel_rfl) (by kernel_rfl) (by kernel_rfl) (fun _ _ _ h => h) (Or.inl ⟨by rfl, ?_⟩) (by assumption) ?_
  rotate_left
  · (intro wS hSw; go_simp; try with_reducible rfl)
  try simp only [Act.put, List.setIfInBounds_toArray, List.set_cons_zero, List.set_cons_succ]
  refine takeL 1 (v := ?_) rfl (by kernel_rfl) (by kernel_rfl) (by kernel_rfl) (fun _ _ _ h => h) (Or.inl ⟨by rfl, ?_⟩) (by assumption) ?_
  rotate_left
  · (intro wS hSw; go_simp; try with_reducible rfl)
  try simp only [Act.put, List.setIfInBounds_toArray, List.set_cons_zero, List.set_cons_succ]
  refine takeL 2 (v := ?_) rfl (by kernel_rfl) (by kernel_rfl) (by kernel_rfl) (fun _ _ _ h => h) (Or.inl ⟨by rfl, ?_⟩) (by assumption) ?_
  rotate_left
  · (intro wS hSw; go_simp; try with_reducible rfl)
  try simp only [Act.put, List.setIfInBounds_toArray, List.set_cons_zero, List.set_cons_succ]
  refine takeL 3 rfl (by kernel_rfl) (by kernel_rfl) (by kernel_rfl) (fun _ _ _ h => h) (yieldsIf_load_cell (by rfl) 148 (.tmp 14) rfl b 0 rfl _ (fun _ s => (hD.out.keep s id id).bl.cell 0 (.map (some r)) rfl) (fun w s => load_ldmap w _ _ _ s)) (by assumption) ?_
  try simp only [Act.put, List.setIfInBounds_toArray, List.set_cons_zero, List.set_cons_succ]
  refine takeL 4 rfl (by kernel_rfl) (by kernel_rfl) (by kernel_rfl) (fun _ _ _ h => h) (yieldsIf_load_mid (by rfl) 33 (.tmp 3) rfl w.heap.size 0 rfl [.int .i64 t, .int .u32 i, .int .u32 a] _ (fun _ s => (hB.out.keep s id).range) Try.underlying33 rfl keyInfo) (by assumption) ?_
  try simp only [Act.put, List.setIfInBounds_toArray, List.set_cons_zero, List.set_cons_succ]
  refine takeL 5 rfl (by kernel_rfl) (by kernel_rfl) (by kernel_rfl) (fun _ _ _ h => h) (yieldsIf_lookup (by rfl) 148 (.tmp 15) (.tmp 16) rfl _ _ (.tuple #[.agg #[.int .i64 o.age, .int .i64 o.type, .int .u32 o.id, .int .u32 o.adv, .int .i64 o.seq, .slice none 0 0, .int .u32 o.mask, .slice none 0 0, .int .i64 o.cost], .bool z]) rfl rfl (fun _ s => by have := (hD.out.keep s id id).lookup t i a; rw [hlook.out] at this; exact this)) (by assumption) ?_
  try simp only [Act.put, List.setIfInBounds_toArray, List.set_cons_zero, List.set_cons_succ]
  refine takeL 6 (v := ?_) rfl (by kernel_rfl) (by kernel_rfl) (by kernel_rfl) (fun _ _ _ h => h) (Or.inl ⟨by rfl, ?_⟩) (by assumption) ?_
  rotate_left
  · (intro wS hSw; go_simp; try with_reducible rfl)
  try simp only [Act.put, List.setIfInBounds_toArray, List.set_cons_zero, List.set_cons_succ]
  refine takeL 7 (v := ?_) rfl (by kernel_rfl) (by kernel_rfl) (by kernel_rfl) (fun _ _ _ h => h) (Or.inl ⟨by rfl, ?_⟩) (by assumption) ?_
  rotate_left
  · (intro wS hSw; go_simp; try with_reducible rfl)
  try simp only [Act.put, List.setIfInBounds_toArray, List.set_cons_zero, List.set_cons_succ]
  refine takeL 8 (v := ?_) rfl (by kernel_rfl) (by kernel_rfl) (by kernel_rfl) (fun _ _ _ h => h) (Or.inl ⟨by rfl, ?_⟩) (by assumption) ?_
  rotate_left
  · (intro wS hSw; go_simp; try with_reducible rfl)
  try simp only [Act.put, List.setIfInBounds_toArray, List.set_cons_zero, List.set_cons_succ]
  refine stepL 9 rfl (by kernel_rfl) (fun K hK => ?_)
  go_simp
  refine hK.out _ _ ((hHeld.alloc _)) (fun hHeld => ?_)
  clear hK K
  try simp only [Act.put, List.setIfInBounds_toArray, List.set_cons_zero, List.set_cons_succ]
  refine stepL 10 rfl (by kernel_rfl) (fun K hK => ?_)
  rw [if_pos (by rfl)]
  (refine wp_store_mid 36 (.tmp 6) (.tmp 18) rfl W0.heap.size 0 #[.int .i64 o.age, .int .i64 o.type, .int .u32 o.id, .int .u32 o.adv, .int .i64 o.seq, .slice none 0 0, .int .u32 o.mask, .slice none 0 0, .int .i64 o.cost] rfl rfl (BlkAt.there (BlkAt.new W0.drew 36 [.int .i64 0, .int .i64 0, .int .u32 0, .int .u32 0, .int .i64 0, .slice none 0 0, .int .u32 0, .slice none 0 0, .int .i64 0]) 0 9 (Nat.le_refl 9)) lsaInfo (lsa_one _ _ _ _ _ _ _ _ _ (slice_one _ _ _) (slice_one _ _ _)) ?_)
  refine hK.out _ _ ((hHeld.trans' (Keeps.setCells (F := fun k => k = W0.heap.size) (.inl rfl) _ _ _ (Keeps.refl _ _)) (fun i e => .inr (by rw [e]; exact Nat.le_refl _)))) (fun hHeld => ?_)
  clear hK K
  try simp only [Act.put, List.setIfInBounds_toArray, List.set_cons_zero, List.set_cons_succ]
  refine takeL 11 (v := ?_) rfl (by kernel_rfl) (by kernel_rfl) (by kernel_rfl) (fun _ _ _ h => h) (Or.inl ⟨by rfl, ?_⟩) (by assumption) ?_
  rotate_left
  · (intro wS hSw; go_simp; try with_reducible rfl)
  try simp only [Act.put, List.setIfInBounds_toArray, List.set_cons_zero, List.set_cons_succ]
  refine wpAnyH_done (by kernel_rfl) (NoPanic.normal ?_) _
  have hO4 : Hid (BlkAt ((W0.drew.alloc (.cells #[.int .i64 0, .int .i64 0, .int .u32 0, .int .u32 0, .int .i64 0, .slice none 0 0, .int .u32 0, .slice none 0 0, .int .i64 0] 36)).setCells W0.heap.size 0 [.int .i64 o.age, .int .i64 o.type, .int .u32 o.id, .int .u32 o.adv, .int .i64 o.seq, .slice none 0 0, .int .u32 o.mask, .slice none 0 0, .int .i64 o.cost]) W0.heap.size 36 [.int .i64 o.age, .int .i64 o.type, .int .u32 o.id, .int .u32 o.adv, .int .i64 o.seq, .slice none 0 0, .int .u32 o.mask, .slice none 0 0, .int .i64 o.cost]) := Lib.hid ((((((((((BlkAt.new W0.drew 36 [.int .i64 0, .int .i64 0, .int .u32 0, .int .u32 0, .int .i64 0, .slice none 0 0, .int .u32 0, .slice none 0 0, .int .i64 0]).set 0 _).set 1 _).set 2 _).set 3 _).set 4 _).set 5 _).set 6 _).set 7 _).set 8 _)
  have hR4 := Lib.hid (hR.out.keep hHeld id)
  have hK4 := Lib.hid (hK.out.trans hHeld)
  clear hHeld hR hK hD hB
  go_wp2_with ((with_reducible refine at_slot 20 ?_); refine wpList_load_mid rfl 36 (.tmp 6) rfl W0.heap.size 0 rfl [.int .i64 o.age, .int .i64 o.type, .int .u32 o.id, .int .u32 o.adv, .int .i64 o.seq, .slice none 0 0, .int .u32 o.mask, .slice none 0 0, .int .i64 o.cost] _ hO4.out.range Try.underlying36 rfl lsaInfo ?_)
  refine (ldClone_bare o _).mono ?_
  rintro e w5 ⟨rfl, k5⟩
  have hR5 := Lib.hid (hR4.out.keep k5 id)
  have hK5 := Lib.hid (hK4.out.trans k5)
  clear k5 hR4 hK4 hO4
  unfold bareV
  go_wp2_with ((with_reducible refine at_store 4 ?_); refine wpList_store_blk rfl 36 (.tmp 4) (.tmp 21) rfl (w.heap.size + 1) #[.int .i64 o.age, .int .i64 o.type, .int .u32 o.id, .int .u32 o.adv, .int .i64 o.seq, .slice none 0 0, .int .u32 o.mask, .slice none 0 0, .int .i64 o.cost] rfl rfl (BlkAt.there hR5.out 0 9 (Nat.le_refl 9)) lsaInfo (lsa_one _ _ _ _ _ _ _ _ _ (slice_one _ _ _) (slice_one _ _ _)) ?_; intro w9 hr9 hs9)
  have c0 := rangeAt_cell hr9.out 0 (.int .i64 o.age) rfl
  have c1 := rangeAt_cell hr9.out 1 (.int .i64 o.type) rfl
  have c2 := rangeAt_cell hr9.out 2 (.int .u32 o.id) rfl
  have c3 := rangeAt_cell hr9.out 3 (.int .u32 o.adv) rfl
  have c4 := rangeAt_cell hr9.out 4 (.int .i64 o.seq) rfl
  have c5 := rangeAt_cell hr9.out 5 (.slice none 0 0) rfl
  have c6 := rangeAt_cell hr9.out 6 (.int .u32 o.mask) rfl
  have c7 := rangeAt_cell hr9.out 7 (.slice none 0 0) rfl
  have c8 := rangeAt_cell hr9.out 8 (.int .i64 o.cost) rfl
  refine bodyPost_ret (v := .tuple #[.agg #[.int .i64 o.age, .int .i64 o.type, .int .u32 o.id, .int .u32 o.adv, .int .i64 o.seq, .slice none 0 0, .int .u32 o.mask, .slice none 0 0, .int .i64 o.cost], .bool z]) (by simp [results, Try.results39, go_sem, c0, c1, c2, c3, c4, c5, c6, c7, c8]) rfl ⟨rfl, ?_⟩
  exact hK5.out.trans' hs9.out (fun i e => .inr (by rw [e]; omega))
end Go.Proofs.Ytiogeepffdpafaa
