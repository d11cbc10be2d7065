/- lsdb: New, Count, isNewer, Put of bare Lsas, walked. -/
import Derived.Test.YtiogeepffdpafaaLDB
import Derived.Carry
namespace Go.Proofs.Ytiogeepffdpafaa
open Go.RowKit

def bareR (v : Value) (m : LsaD) : Prop := v = bareV m
/-- a Db of these, in memory -/
structure DbAt (w : World) (b r : Nat) (L : List LsaD) : Prop where
  bl : BlkAt w b 150 [.map (some r)]
  mp : ∃ es clock, w.heap[r]? = some (.map es clock) ∧ EntriesAt bareR es.toList L
theorem DbAt.keep {F : Nat → Prop} {w w' : World} {b r : Nat} {L : List LsaD} (h : DbAt w b r L) (k : Keeps F w w') (hb : ¬ F b) (hr : ¬ F r) : DbAt w' b r L := by
  obtain ⟨h1, es, clock, h2, h3⟩ := h
  exact ⟨h1.keep k hb, es, clock, by rw [k.block r (lt_of_block h2) hr]; exact h2, h3⟩
theorem DbAt.ne {w : World} {b r : Nat} {L : List LsaD} (h : DbAt w b r L) : b ≠ r := by
  rintro rfl
  obtain ⟨h1, es, clock, h2, -⟩ := h
  have h1 : w.heap[b]? = _ := h1
  rw [h2] at h1; cases h1
theorem DbAt.lt {w : World} {b r : Nat} {L : List LsaD} (h : DbAt w b r L) : b < w.heap.size ∧ r < w.heap.size := by
  obtain ⟨h1, es, clock, h2, -⟩ := h
  exact ⟨lt_of_block h1, lt_of_block h2⟩
theorem ldNew_any (w : World) : Calls Try.prog 47 #[] w fun e w' => (∃ b r, e = .returned (.pointer (some ⟨b, 0, none⟩)) ∧ DbAt w' b r [] ∧ w.heap.size ≤ b ∧ w.heap.size ≤ r) ∧ Keeps (fun _ => False) w w' := by
  have hmm := @run_makeMap Try.prog
  go_enter Try.func47, Try.ntmps47
  go_wp2_with fail
  go_ret
  refine ⟨⟨w.heap.size + 1, w.heap.size, rfl, ⟨?_, #[], 0, ?_, trivial⟩, by omega, Nat.le_refl _⟩, ((Keeps.refl _ _).alloc _).alloc _⟩
  · have := BlkAt.new (w.alloc (.map #[] 0)) 150 [.map (some w.heap.size)]
    simpa using this
  · rw [Below.heap_alloc _ _ _ (by simp)]
    exact heap_alloc_last w _
theorem run_len_mapd {w : World} {ty : TypeId} {r : Nat} {es : Array MapEntry} {clock : Nat} (hb : w.heap[r]? = some (.map es clock)) :
    (Builtin.len_ #[148] ty #[.map (some r)]).run Try.prog w = .ok (.int .i64 es.size) w := by
  have hg : (getObj r).run Try.prog w = .ok (.map es clock) w := by simp [getObj, Sem.run, hb]
  simp [Builtin.len_, run_underlying Try.underlying148, hg, goInt]
theorem ldCount_any (b r : Nat) (L : List LsaD) (w : World) (h : Hid (DbAt w b r L)) : Calls Try.prog 45 #[.pointer (some ⟨b, 0, none⟩)] w fun e w' => e = .returned (.int .i64 (L.length : Nat)) ∧ w = w' := by
  obtain ⟨h1, es, clock, h2, h3⟩ := h.out
  have hc := h1.cell 0 (.map (some r)) rfl
  have hl := fun ty => run_len_mapd (ty := ty) h2
  have hlen := h3.len
  rw [Array.length_toList] at hlen
  rw [hlen] at hl
  clear h1 h2 h3 hlen
  go_enter Try.func45, Try.ntmps45
  go_wp2_with fail
  go_ret
  exact ⟨rfl, rfl⟩
set_option maxRecDepth 100000 in
set_option maxHeartbeats 1000000 in
theorem ldIsNewer_bare (A A' I V C I' V' C' : Nat) (T S Ln T' S' Ln' : Int) (m : LsaD) (hb : Bare m) (hm : Hid (hdD m = ⟨(A' : Int), T', I', V', S', C', Ln'⟩)) (hA : A ≤ 3600) (hA' : A' ≤ 3600) (z : Bool) (w : World) (hz : Hid (decide (cmpH A A' S S' C C' = 1) = z)) :
    Calls Try.prog 87 #[.agg #[.int .i64 (A : Nat), .int .i64 T, .int .u32 I, .int .u32 V, .int .i64 S, .int .u16 C, .int .i64 Ln], bareV m] w fun e w' => e = .returned (.bool z) ∧ Keeps (fun _ => False) w w' := by
  obtain ⟨W0, hW0⟩ : ∃ W0, W0 = (w.alloc (.cells #[.int .i64 (A : Nat), .int .i64 T, .int .u32 I, .int .u32 V, .int .i64 S, .int .u16 C, .int .i64 Ln] 45)).alloc (.cells #[.int .i64 m.age, .int .i64 m.type, .int .u32 m.id, .int .u32 m.adv, .int .i64 m.seq, .slice none 0 0, .int .u32 m.mask, .slice none 0 0, .int .i64 m.cost] 36) := ⟨_, rfl⟩
  have hH : Hid (BlkAt W0 w.heap.size 45 [.int .i64 (A : Nat), .int .i64 T, .int .u32 I, .int .u32 V, .int .i64 S, .int .u16 C, .int .i64 Ln]) := Lib.hid (by rw [hW0]; exact (BlkAt.new w 45 [.int .i64 (A : Nat), .int .i64 T, .int .u32 I, .int .u32 V, .int .i64 S, .int .u16 C, .int .i64 Ln]).alloc _)
  have hB : Hid (BlkAt W0 (w.heap.size + 1) 36 [.int .i64 m.age, .int .i64 m.type, .int .u32 m.id, .int .u32 m.adv, .int .i64 m.seq, .slice none 0 0, .int .u32 m.mask, .slice none 0 0, .int .i64 m.cost]) := Lib.hid (by
    have := BlkAt.new (w.alloc (.cells #[.int .i64 (A : Nat), .int .i64 T, .int .u32 I, .int .u32 V, .int .i64 S, .int .u16 C, .int .i64 Ln] 45)) 36 [.int .i64 m.age, .int .i64 m.type, .int .u32 m.id, .int .u32 m.adv, .int .i64 m.seq, .slice none 0 0, .int .u32 m.mask, .slice none 0 0, .int .i64 m.cost]
    rw [hW0]; simpa using this)
  have hK : Hid (Keeps (fun _ => False) w W0) := Lib.hid (by rw [hW0]; exact ((Keeps.refl _ _).alloc _).alloc _)
  have hW0' := Lib.hid hW0
  clear hW0
  unfold bareV
  go_enter Try.func87, Try.ntmps87
  go_upto_region 1 with fail
  rw [← hW0'.out]
  go_wp2_with ((with_reducible refine at_slot 8 ?_); refine wpList_load_mid rfl 36 (.tmp 3) rfl (w.heap.size + 1) 0 rfl _ _ hB.out.range Try.underlying36 rfl lsaInfo ?_)
  refine (ldHeadOf_bare m hb ⟨(A' : Int), T', I', V', S', C', Ln'⟩ hm _).mono ?_
  rintro e w2 ⟨rfl, k2⟩
  have hH2 := Lib.hid ((hH.out.keep k2 id).alloc (.cells #[.int .i64 (A' : Nat), .int .i64 T', .int .u32 I', .int .u32 V', .int .i64 S', .int .u16 C', .int .i64 Ln'] 45))
  have hN2 : Hid (BlkAt (w2.alloc (.cells #[.int .i64 (A' : Nat), .int .i64 T', .int .u32 I', .int .u32 V', .int .i64 S', .int .u16 C', .int .i64 Ln'] 45)) w2.heap.size 45 [.int .i64 (A' : Nat), .int .i64 T', .int .u32 I', .int .u32 V', .int .i64 S', .int .u16 C', .int .i64 Ln']) := Lib.hid (BlkAt.new w2 45 [.int .i64 (A' : Nat), .int .i64 T', .int .u32 I', .int .u32 V', .int .i64 S', .int .u16 C', .int .i64 Ln'])
  have hK2 := Lib.hid ((hK.out.trans k2).alloc (.cells #[.int .i64 (A' : Nat), .int .i64 T', .int .u32 I', .int .u32 V', .int .i64 S', .int .u16 C', .int .i64 Ln'] 45))
  clear k2 hH hB hK
  simp only
  go_wp2_with (first | ((with_reducible refine at_store 5 ?_); refine wpList_store_new rfl 45 (.tmp 5) (.tmp 10) rfl _ _ rfl rfl headInfo rfl (head_one _ _ _ _ _ _ _) ?_) | ((with_reducible refine at_slot 12 ?_); refine wpList_load_mid rfl 45 (.tmp 2) rfl w.heap.size 0 rfl _ _ hH2.out.range Try.underlying45 rfl headInfo ?_) | ((with_reducible refine at_slot 13 ?_); refine wpList_load_mid rfl 45 (.tmp 5) rfl w2.heap.size 0 rfl _ _ hN2.out.range Try.underlying45 rfl headInfo ?_))
  refine (lsCompare_any A A' C C' I I' V V' T T' S S' Ln Ln' (cmpH A A' S S' C C') hA hA' _ (Lib.hid rfl)).mono ?_
  rintro e w3 ⟨rfl, k3⟩
  have hK3 := Lib.hid (hK2.out.trans k3)
  clear k3 hK2
  go_wp2_with fail
  go_ret
  exact ⟨by rw [← hz.out]; rfl, hK3.out⟩
end Go.Proofs.Ytiogeepffdpafaa
