/- ElectOne, walked (gen_elk.py writes this). -/
import Derived.Test.YtdjbgjcniacgdaaELJ
namespace Go.Proofs.Ytdjbgjcniacgdaa
open Go.RowKit

theorem u64_natv (n : Int) : ∃ U : Nat, IntKind.u64.wrap n = (U : Int) := by
  refine ⟨(n % 18446744073709551616).toNat, ?_⟩
  unfold IntKind.wrap
  have h1 : IntKind.u64.signed = false := rfl
  have h2 : (2 : Int) ^ IntKind.u64.bits = 18446744073709551616 := rfl
  simp [h1, h2]; omega
def vA (K i : Nat) : VotD := ⟨i + 1, 10 + i, if i = K then 5 else 0, 0, 0⟩
def vB (i : Nat) : VotD := ⟨i + 1, 10 + i, 0, 0, 0⟩
def vC (K i : Nat) : VotD := ⟨i + 1, 10 + i, ((1 + i : Nat) : Int), 10 + K, 0⟩
def rowA (N K : Nat) : List VotD := (List.range N).map (vA K)
def rowB (N : Nat) : List VotD := (List.range N).map vB
def rowC (N K : Nat) : List VotD := (List.range N).map (vC K)
theorem rowA_step {K i : Nat} : rowA (i + 1) K = rowA i K ++ [vA K i] := by unfold rowA; rw [List.range_succ, List.map_append]; rfl
theorem rowB_step {i : Nat} : rowB (i + 1) = rowB i ++ [vB i] := by unfold rowB; rw [List.range_succ, List.map_append]; rfl
theorem rowC_step {K i : Nat} : rowC (i + 1) K = rowC i K ++ [vC K i] := by unfold rowC; rw [List.range_succ, List.map_append]; rfl
theorem rowA_len {K i : Nat} : (rowA i K).length = i := by unfold rowA; simp
theorem rowB_len {i : Nat} : (rowB i).length = i := by unfold rowB; simp
theorem rowC_len {K i : Nat} : (rowC i K).length = i := by unfold rowC; simp
theorem OwnV.nil (w0 w : World) (h : w0.heap.size ≤ w.heap.size) : OwnV w0 w (.slice none 0 0) [] := ⟨⟨rfl, .inl ⟨rfl, rfl⟩⟩, by simp [Value.ownBlock], h⟩
theorem OwnV.lt {w0 w : World} {v : Value} {x : List VotD} (h : OwnV w0 w v x) : ∀ k, v.ownBlock = some k → k < w.heap.size := fun k e => by
  rcases h.1.2 with ⟨e1, _⟩ | ⟨g, cap, cur, he, _, hg, _⟩
  · rw [e1] at e; simp [Value.ownBlock] at e
  · rw [he] at e
    have e : some g = some k := e
    injection e with e; subst e; exact lt_of_block hg
/-- of two rows neither one's block is the other one's -/
def Apart (p q : Value) : Prop := ∀ k, p.ownBlock = some k → q.ownBlock = some k → False
theorem Apart.nil (q : Value) : Apart (.slice none 0 0) q := fun k e _ => by simp [Value.ownBlock] at e
/-- three rows of the call's own, and a block beside them -/
structure RowsAt (w W : World) (B : Nat) (va vb vc : Value) (la lb lc : List VotD) : Prop where
  a : OwnV w W va la
  b : OwnV w W vb lb
  c : OwnV w W vc lc
  ab : Apart va vb
  bc : Apart vb vc
  ca : Apart vc va
  na : ∀ k, va.ownBlock = some k → k ≠ B
  nb : ∀ k, vb.ownBlock = some k → k ≠ B
  nc : ∀ k, vc.ownBlock = some k → k ≠ B
  lt : B < W.heap.size
  k : Keeps (fun _ => False) w W
  hB : w.heap.size ≤ B
theorem RowsAt.rot {w W : World} {B : Nat} {va vb vc : Value} {la lb lc : List VotD} (h : RowsAt w W B va vb vc la lb lc) : RowsAt w W B vb vc va lb lc la :=
  ⟨h.b, h.c, h.a, h.bc, h.ca, h.ab, h.nb, h.nc, h.na, h.lt, h.k, h.hB⟩
theorem RowsAt.next {w W W' : World} {B : Nat} {va vb vc : Value} {la lb lc : List VotD} (h : RowsAt w W B va vb vc la lb lc) (k : Keeps (fun k => k = B) W W') : RowsAt w W' B va vb vc la lb lc :=
  ⟨h.a.keep k h.na, h.b.keep k h.nb, h.c.keep k h.nc, h.ab, h.bc, h.ca, h.na, h.nb, h.nc, Nat.lt_of_lt_of_le h.lt k.size, h.k.trans' k (fun i e => .inr (by rw [e]; exact h.hB)), h.hB⟩
theorem RowsAt.alloc {w W : World} {B : Nat} {va vb vc : Value} {la lb lc : List VotD} (h : RowsAt w W B va vb vc la lb lc) (o : Obj) : RowsAt w (W.alloc o) B va vb vc la lb lc := h.next ((Keeps.refl _ _).alloc o)
theorem RowsAt.push {w W W' : World} {B : Nat} {va va' vb vc : Value} {la la' lb lc : List VotD} (h : RowsAt w W B va vb vc la lb lc) (ho : OwnV w W' va' la') (k : Keeps (fun k => va.ownBlock = some k) W W') (hs : ∀ k, va'.ownBlock = some k → va.ownBlock = some k ∨ W.heap.size ≤ k) : RowsAt w W' B va' vb vc la' lb lc :=
  ⟨ho, h.b.keep k (fun i e f => h.ab i f e), h.c.keep k (fun i e f => h.ca i e f),
   fun i e f => by rcases hs i e with g | g; exact h.ab i g f; have := h.b.lt i f; omega,
   h.bc, fun i e f => by rcases hs i f with g | g; exact h.ca i e g; have := h.c.lt i e; omega,
   fun i e => by rcases hs i e with g | g; exact h.na i g; have := h.lt; omega,
   h.nb, h.nc, Nat.lt_of_lt_of_le h.lt k.size, h.k.trans' k (fun i e => .inr (h.a.2.1 i e)), h.hB⟩
def oneB (N K : Nat) : Bool := decide ((stOut (rowA N K)).1 = 10 + K) && (decide ((stOut (rowA N K)).2.1 = 0) && (decide ((stOut (rowB N)).1 = 0) && (decide ((stOut (rowB N)).2.1 = 0) && (decide ((stOut (rowC N K)).1 = 10 + K) && decide ((stOut (rowC N K)).2.1 = (if N = 1 then 0 else if K + 1 = N then 8 + N else 9 + N))))))
def allB : Bool := (List.range 7).all fun N => (List.range N).all fun K => oneB N K
theorem allB_true : allB = true := by kernel_rfl
theorem one_all (N K : Nat) (hN : N < 7) (hK : K < N) : (stOut (rowA N K)).1 = 10 + K ∧ (stOut (rowA N K)).2.1 = 0 ∧ (stOut (rowB N)).1 = 0 ∧ (stOut (rowB N)).2.1 = 0 ∧ (stOut (rowC N K)).1 = 10 + K ∧ (stOut (rowC N K)).2.1 = (if N = 1 then 0 else if K + 1 = N then 8 + N else 9 + N) := by
  have h := List.all_eq_true.1 (List.all_eq_true.1 allB_true N (List.mem_range.2 hN)) K (List.mem_range.2 hK)
  unfold oneB at h
  simp only [Bool.and_eq_true, decide_eq_true_eq] at h
  exact h
theorem st_of {l : List VotD} {x y : Nat} (hx : (stOut l).1 = x) (hy : (stOut l).2.1 = y) : ∃ P, Hid (stOut l = (x, y, P)) := ⟨(stOut l).2.2, Lib.hid (by rw [← hx, ← hy])⟩
set_option maxRecDepth 100000 in
set_option maxHeartbeats 4000000 in
theorem lElectOne_walk (count who : Int) (w : World) : Calls Try.prog 3 #[.int .i64 count, .int .i64 who] w (fun e w' => e = .returned (.bool true) ∧ Keeps (fun _ => False) w w') := by
  obtain ⟨i0, hi0, hz0, hz1, hz2⟩ := vote_parts
  obtain ⟨U, hU⟩ := u64_natv count
  obtain ⟨V, hV⟩ := u64_natv who
  obtain ⟨N, e1, hN1, hN6⟩ : ∃ N : Nat, 1 + (U : Int) % 6 = N ∧ 1 ≤ N ∧ N ≤ 6 := ⟨1 + U % 6, by omega, by omega, by omega⟩
  obtain ⟨K, e2, hKN⟩ : ∃ K : Nat, (V : Int) % (N : Int) = K ∧ K < N := ⟨V % N, by omega, Nat.mod_lt _ (by omega)⟩
  have hK' := Lib.hid hKN
  go_enter Try.func3, Try.ntmps3
  go_wp2_with fail
  clear e1 e2 hU hV
  go_loopw [7, 8, 9, 10] (fun av bv cv iv wr => ∃ (i : Nat) (pa : Option Addr) (ca : Nat) (pb : Option Addr) (cb : Nat) (pc : Option Addr) (cc : Nat), i ≤ N ∧ av = .slice pa i ca ∧ bv = .slice pb i cb ∧ cv = .slice pc i cc ∧ iv = .int .i64 i ∧ Hid (OwnV w wr (.slice pa i ca) (rowA i K) ∧ OwnV w wr (.slice pb i cb) (rowB i) ∧ OwnV w wr (.slice pc i cc) (rowC i K) ∧ Apart (.slice pa i ca) (.slice pb i cb) ∧ Apart (.slice pb i cb) (.slice pc i cc) ∧ Apart (.slice pc i cc) (.slice pa i ca) ∧ Keeps (fun _ => False) w wr)) (fun _ _ _ iv _ => N - (intOf iv).toNat)
  case atStart => exact ⟨0, none, 0, none, 0, none, 0, by omega, rfl, rfl, rfl, rfl, Lib.hid ⟨OwnV.nil _ _ (Nat.le_refl _), OwnV.nil _ _ (Nat.le_refl _), OwnV.nil _ _ (Nat.le_refl _), Apart.nil _, Apart.nil _, Apart.nil _, Keeps.refl _ _⟩⟩
  case round =>
    obtain ⟨i, pa, ca, pb, cb, pc, cc, hi, rfl, rfl, rfl, rfl, hrel⟩ := hrel
    by_cases hlt : i < N
    · have hi6 : i < 6 := by omega
      have hR1 : Hid (RowsAt w (wr.alloc (.cells #[.int .u32 ((i : Int) + 1), .int .u32 (10 + (i : Int)), .int .i64 0, .int .u32 0, .int .u32 0] 26)) wr.heap.size (.slice pb i cb) (.slice pc i cc) (.slice pa i ca) (rowB i) (rowC i K) (rowA i K)) := Lib.hid (by
        obtain ⟨h1, h2, h3, h4, h5, h6, h7⟩ := hrel.out
        have ka := (Keeps.refl (fun _ => False) wr).alloc (.cells #[.int .u32 ((i : Int) + 1), .int .u32 (10 + (i : Int)), .int .i64 0, .int .u32 0, .int .u32 0] 26)
        exact ⟨h2.keep ka (fun _ _ => id), h3.keep ka (fun _ _ => id), h1.keep ka (fun _ _ => id), h5, h6, h4, fun k e => Nat.ne_of_lt (h2.lt k e), fun k e => Nat.ne_of_lt (h3.lt k e), fun k e => Nat.ne_of_lt (h1.lt k e), by simp, h7.trans ka, h7.size⟩)
      have hB1 : Hid (BlkAt (wr.alloc (.cells #[.int .u32 ((i : Int) + 1), .int .u32 (10 + (i : Int)), .int .i64 0, .int .u32 0, .int .u32 0] 26)) wr.heap.size 26 [.int .u32 ((i : Int) + 1), .int .u32 (10 + (i : Int)), .int .i64 0, .int .u32 0, .int .u32 0]) := Lib.hid (BlkAt.new _ _ _)
      obtain ⟨B, hBe⟩ : ∃ B, wr.heap.size = B := ⟨_, rfl⟩
      obtain ⟨W1, hW1⟩ : ∃ W1, wr.alloc (.cells #[.int .u32 ((i : Int) + 1), .int .u32 (10 + (i : Int)), .int .i64 0, .int .u32 0, .int .u32 0] 26) = W1 := ⟨_, rfl⟩
      rw [hBe, hW1] at hR1 hB1
      have hBe' := Lib.hid hBe; have hW1' := Lib.hid hW1
      clear hBe hW1 hrel
      go_upto_region 8 with fail
      rw [hBe'.out, hW1'.out]
      clear hBe' hW1'
      have hT2 : Hid (RowsAt w (W1.alloc (.cells #[.int .u32 ((i : Int) + 1), .int .u32 (10 + (i : Int)), .int .i64 0, .int .u32 0, .int .u32 0] 26)) B (.slice pb i cb) (.slice pc i cc) (.slice pa i ca) (rowB i) (rowC i K) (rowA i K)) := Lib.hid (hR1.out.alloc _)
      have hN2 : Hid (VotersAt (W1.alloc (.cells #[.int .u32 ((i : Int) + 1), .int .u32 (10 + (i : Int)), .int .i64 0, .int .u32 0, .int .u32 0] 26)) (.slice (some ⟨W1.heap.size, 0, none⟩) 1 1) [vB i]) := Lib.hid (VotersAt.new [vB i] rfl)
      go_upto_region 9 with (first | ((with_reducible refine at_slot 47 ?_); refine wpList_load_mid rfl 26 (.tmp 11) rfl B 0 rfl [.int .u32 ((i : Int) + 1), .int .u32 (10 + (i : Int)), .int .i64 0, .int .u32 0, .int .u32 0] _ hB1.out.range Try.underlying26 rfl voteInfo ?_) | ((with_reducible refine at_slot 49 ?_); refine wpList_append_v rfl (.tmp 46) (.tmp 48) 23 rfl i0 Try.underlying23 hi0 hz0 hz1 hz2 w _ i (rowB i) rowB_len rfl hT2.out.a ⟨W1.heap.size, 0, none⟩ 1 1 [vB i] rfl rfl hN2.out (by omega) ?_; intro p2 c2 w2 ho2 hk2 hs2))
      have hR2 := Lib.hid (hT2.out.push (by have := ho2.out; rw [← rowB_step] at this; exact this) hk2.out hs2.out)
      have hB2 : Hid (BlkAt w2 B 26 [.int .u32 ((i : Int) + 1), .int .u32 (10 + (i : Int)), .int .i64 0, .int .u32 0, .int .u32 0]) := Lib.hid ((hB1.out.alloc _).keep hk2.out (fun e => hT2.out.na B e rfl))
      clear hT2 hN2 ho2 hk2 hs2 hR1 hB1
      by_cases hik : i = K
      · have hv : Hid (vA K i = ⟨i + 1, 10 + i, 5, 0, 0⟩) := Lib.hid (by unfold vA; rw [if_pos hik])
        have hb : ((i : Int) == (K : Int)) = true := by rw [hik]; simp
        have hc2 := hB2.out.cell 2 (.int .i64 0) rfl
        have hf2 := hB2.out.frozen 2
        have hR4 : Hid (RowsAt w (w2.setCell ⟨B, 2, none⟩ (.int .i64 5)) B (.slice p2 (i + 1) c2) (.slice pc i cc) (.slice pa i ca) (rowB (i + 1)) (rowC i K) (rowA i K)) := Lib.hid (hR2.out.next ((Keeps.refl (fun k => k = B) _).setCell (.inl rfl) _))
        have hB4 : Hid (BlkAt (w2.setCell ⟨B, 2, none⟩ (.int .i64 5)) B 26 [.int .u32 ((i : Int) + 1), .int .u32 (10 + (i : Int)), .int .i64 5, .int .u32 0, .int .u32 0]) := Lib.hid (hB2.out.set 2 _)
        obtain ⟨W4, hW4⟩ : ∃ W4, w2.setCell ⟨B, 2, none⟩ (.int .i64 5) = W4 := ⟨_, rfl⟩
        rw [hW4] at hR4 hB4
        have hW4' := Lib.hid hW4
        clear hW4 hR2 hB2 hik
        go_upto_region 11 with fail
        rw [hW4'.out]
        clear hW4' hc2 hf2 hb
        have hR4r := Lib.hid hR4.out.rot.rot
        clear hR4
        have hT5 : Hid (RowsAt w (W4.alloc (.cells #[.int .u32 ((i : Int) + 1), .int .u32 (10 + (i : Int)), .int .i64 5, .int .u32 0, .int .u32 0] 26)) B (.slice pa i ca) (.slice p2 (i + 1) c2) (.slice pc i cc) (rowA i K) (rowB (i + 1)) (rowC i K)) := Lib.hid (hR4r.out.alloc _)
        have hN5 : Hid (VotersAt (W4.alloc (.cells #[.int .u32 ((i : Int) + 1), .int .u32 (10 + (i : Int)), .int .i64 5, .int .u32 0, .int .u32 0] 26)) (.slice (some ⟨W4.heap.size, 0, none⟩) 1 1) [(⟨i + 1, 10 + i, 5, 0, 0⟩ : VotD)]) := Lib.hid (VotersAt.new [(⟨i + 1, 10 + i, 5, 0, 0⟩ : VotD)] rfl)
        go_upto_region 12 with (first | ((with_reducible refine at_slot 55 ?_); refine wpList_load_mid rfl 26 (.tmp 11) rfl B 0 rfl [.int .u32 ((i : Int) + 1), .int .u32 (10 + (i : Int)), .int .i64 5, .int .u32 0, .int .u32 0] _ hB4.out.range Try.underlying26 rfl voteInfo ?_) | ((with_reducible refine at_slot 57 ?_); refine wpList_append_v rfl (.tmp 54) (.tmp 56) 23 rfl i0 Try.underlying23 hi0 hz0 hz1 hz2 w _ i (rowA i K) rowA_len rfl hT5.out.a ⟨W4.heap.size, 0, none⟩ 1 1 [(⟨i + 1, 10 + i, 5, 0, 0⟩ : VotD)] rfl rfl hN5.out (by omega) ?_; intro p5 c5 w5 ho5 hk5 hs5))
        have hR5 := Lib.hid (hT5.out.push (by have := ho5.out; rw [← hv.out, ← rowA_step] at this; exact this) hk5.out hs5.out)
        have hB5 : Hid (BlkAt w5 B 26 [.int .u32 ((i : Int) + 1), .int .u32 (10 + (i : Int)), .int .i64 5, .int .u32 0, .int .u32 0]) := Lib.hid ((hB4.out.alloc _).keep hk5.out (fun e => hT5.out.na B e rfl))
        clear hT5 hN5 ho5 hk5 hs5 hR4r hB4
        have hc2 := hB5.out.cell 2 (.int .i64 5) rfl
        have hf2 := hB5.out.frozen 2
        have hc3 : (w5.setCell ⟨B, 2, none⟩ (.int .i64 (1 + (i : Int)))).cell? ⟨B, 3, none⟩ = some (.int .u32 0) := (hB5.out.set 2 _).cell 3 (.int .u32 0) rfl
        have hf3 := (hB5.out.set 2 (.int .i64 (1 + (i : Int)))).frozen 3
        have hR7 : Hid (RowsAt w ((w5.setCell ⟨B, 2, none⟩ (.int .i64 (1 + (i : Int)))).setCell ⟨B, 3, none⟩ (.int .u32 (10 + (K : Int)))) B (.slice pc i cc) (.slice p5 (i + 1) c5) (.slice p2 (i + 1) c2) (rowC i K) (rowA (i + 1) K) (rowB (i + 1))) := Lib.hid ((hR5.out.next ((Keeps.refl (fun k => k = B) _).setCell (.inl rfl) _)).next ((Keeps.refl (fun k => k = B) _).setCell (.inl rfl) _)).rot.rot
        have hB7 : Hid (BlkAt ((w5.setCell ⟨B, 2, none⟩ (.int .i64 (1 + (i : Int)))).setCell ⟨B, 3, none⟩ (.int .u32 (10 + (K : Int)))) B 26 [.int .u32 ((i : Int) + 1), .int .u32 (10 + (i : Int)), .int .i64 (1 + (i : Int)), .int .u32 (10 + (K : Int)), .int .u32 0]) := Lib.hid ((hB5.out.set 2 _).set 3 _)
        obtain ⟨W7, hW7⟩ : ∃ W7, ((w5.setCell ⟨B, 2, none⟩ (.int .i64 (1 + (i : Int)))).setCell ⟨B, 3, none⟩ (.int .u32 (10 + (K : Int)))) = W7 := ⟨_, rfl⟩
        rw [hW7] at hR7 hB7
        have hW7' := Lib.hid hW7
        clear hW7 hR5 hB5
        go_upto_region 14 with fail
        rw [hW7'.out]
        clear hW7' hc2 hf2 hc3 hf3
        have hT8 : Hid (RowsAt w (W7.alloc (.cells #[.int .u32 ((i : Int) + 1), .int .u32 (10 + (i : Int)), .int .i64 (1 + (i : Int)), .int .u32 (10 + (K : Int)), .int .u32 0] 26)) B (.slice pc i cc) (.slice p5 (i + 1) c5) (.slice p2 (i + 1) c2) (rowC i K) (rowA (i + 1) K) (rowB (i + 1))) := Lib.hid (hR7.out.alloc _)
        have hN8 : Hid (VotersAt (W7.alloc (.cells #[.int .u32 ((i : Int) + 1), .int .u32 (10 + (i : Int)), .int .i64 (1 + (i : Int)), .int .u32 (10 + (K : Int)), .int .u32 0] 26)) (.slice (some ⟨W7.heap.size, 0, none⟩) 1 1) [vC K i]) := Lib.hid (VotersAt.new [vC K i] rfl)
        go_wp2_with (first | ((with_reducible refine at_slot 66 ?_); refine wpList_load_mid rfl 26 (.tmp 11) rfl B 0 rfl [.int .u32 ((i : Int) + 1), .int .u32 (10 + (i : Int)), .int .i64 (1 + (i : Int)), .int .u32 (10 + (K : Int)), .int .u32 0] _ hB7.out.range Try.underlying26 rfl voteInfo ?_) | ((with_reducible refine at_slot 68 ?_); refine wpList_append_v rfl (.tmp 65) (.tmp 67) 23 rfl i0 Try.underlying23 hi0 hz0 hz1 hz2 w _ i (rowC i K) rowC_len rfl hT8.out.a ⟨W7.heap.size, 0, none⟩ 1 1 [vC K i] rfl rfl hN8.out (by omega) ?_; intro p8 c8 w8 ho8 hk8 hs8))
        have hR8 := Lib.hid (hT8.out.push (by have := ho8.out; rw [← rowC_step] at this; exact this) hk8.out hs8.out)
        have hB8 : Hid (BlkAt w8 B 26 [.int .u32 ((i : Int) + 1), .int .u32 (10 + (i : Int)), .int .i64 (1 + (i : Int)), .int .u32 (10 + (K : Int)), .int .u32 0]) := Lib.hid ((hB7.out.alloc _).keep hk8.out (fun e => hT8.out.na B e rfl))
        clear hT8 hN8 ho8 hk8 hs8 hR7 hB7
        exact ⟨⟨i + 1, p5, c5, p2, c2, p8, c8, by omega, rfl, rfl, rfl, by go_num, Lib.hid ⟨hR8.out.b, hR8.out.c, hR8.out.a, hR8.out.bc, hR8.out.ca, hR8.out.ab, hR8.out.k⟩⟩, by simp [intOf]; omega⟩
      · have hv : Hid (vA K i = ⟨i + 1, 10 + i, 0, 0, 0⟩) := Lib.hid (by unfold vA; rw [if_neg hik])
        have hb : ((i : Int) == (K : Int)) = false := by rw [beq_eq_false_iff_ne]; omega
        clear hik
        go_upto_region 11 with fail
        clear hb
        have hR4r := Lib.hid hR2.out.rot.rot
        clear hR2
        have hT5 : Hid (RowsAt w (w2.alloc (.cells #[.int .u32 ((i : Int) + 1), .int .u32 (10 + (i : Int)), .int .i64 0, .int .u32 0, .int .u32 0] 26)) B (.slice pa i ca) (.slice p2 (i + 1) c2) (.slice pc i cc) (rowA i K) (rowB (i + 1)) (rowC i K)) := Lib.hid (hR4r.out.alloc _)
        have hN5 : Hid (VotersAt (w2.alloc (.cells #[.int .u32 ((i : Int) + 1), .int .u32 (10 + (i : Int)), .int .i64 0, .int .u32 0, .int .u32 0] 26)) (.slice (some ⟨w2.heap.size, 0, none⟩) 1 1) [(⟨i + 1, 10 + i, 0, 0, 0⟩ : VotD)]) := Lib.hid (VotersAt.new [(⟨i + 1, 10 + i, 0, 0, 0⟩ : VotD)] rfl)
        go_upto_region 12 with (first | ((with_reducible refine at_slot 55 ?_); refine wpList_load_mid rfl 26 (.tmp 11) rfl B 0 rfl [.int .u32 ((i : Int) + 1), .int .u32 (10 + (i : Int)), .int .i64 0, .int .u32 0, .int .u32 0] _ hB2.out.range Try.underlying26 rfl voteInfo ?_) | ((with_reducible refine at_slot 57 ?_); refine wpList_append_v rfl (.tmp 54) (.tmp 56) 23 rfl i0 Try.underlying23 hi0 hz0 hz1 hz2 w _ i (rowA i K) rowA_len rfl hT5.out.a ⟨w2.heap.size, 0, none⟩ 1 1 [(⟨i + 1, 10 + i, 0, 0, 0⟩ : VotD)] rfl rfl hN5.out (by omega) ?_; intro p5 c5 w5 ho5 hk5 hs5))
        have hR5 := Lib.hid (hT5.out.push (by have := ho5.out; rw [← hv.out, ← rowA_step] at this; exact this) hk5.out hs5.out)
        have hB5 : Hid (BlkAt w5 B 26 [.int .u32 ((i : Int) + 1), .int .u32 (10 + (i : Int)), .int .i64 0, .int .u32 0, .int .u32 0]) := Lib.hid ((hB2.out.alloc _).keep hk5.out (fun e => hT5.out.na B e rfl))
        clear hT5 hN5 ho5 hk5 hs5 hR4r hB2
        have hc2 := hB5.out.cell 2 (.int .i64 0) rfl
        have hf2 := hB5.out.frozen 2
        have hc3 : (w5.setCell ⟨B, 2, none⟩ (.int .i64 (1 + (i : Int)))).cell? ⟨B, 3, none⟩ = some (.int .u32 0) := (hB5.out.set 2 _).cell 3 (.int .u32 0) rfl
        have hf3 := (hB5.out.set 2 (.int .i64 (1 + (i : Int)))).frozen 3
        have hR7 : Hid (RowsAt w ((w5.setCell ⟨B, 2, none⟩ (.int .i64 (1 + (i : Int)))).setCell ⟨B, 3, none⟩ (.int .u32 (10 + (K : Int)))) B (.slice pc i cc) (.slice p5 (i + 1) c5) (.slice p2 (i + 1) c2) (rowC i K) (rowA (i + 1) K) (rowB (i + 1))) := Lib.hid ((hR5.out.next ((Keeps.refl (fun k => k = B) _).setCell (.inl rfl) _)).next ((Keeps.refl (fun k => k = B) _).setCell (.inl rfl) _)).rot.rot
        have hB7 : Hid (BlkAt ((w5.setCell ⟨B, 2, none⟩ (.int .i64 (1 + (i : Int)))).setCell ⟨B, 3, none⟩ (.int .u32 (10 + (K : Int)))) B 26 [.int .u32 ((i : Int) + 1), .int .u32 (10 + (i : Int)), .int .i64 (1 + (i : Int)), .int .u32 (10 + (K : Int)), .int .u32 0]) := Lib.hid ((hB5.out.set 2 _).set 3 _)
        obtain ⟨W7, hW7⟩ : ∃ W7, ((w5.setCell ⟨B, 2, none⟩ (.int .i64 (1 + (i : Int)))).setCell ⟨B, 3, none⟩ (.int .u32 (10 + (K : Int)))) = W7 := ⟨_, rfl⟩
        rw [hW7] at hR7 hB7
        have hW7' := Lib.hid hW7
        clear hW7 hR5 hB5
        go_upto_region 14 with fail
        rw [hW7'.out]
        clear hW7' hc2 hf2 hc3 hf3
        have hT8 : Hid (RowsAt w (W7.alloc (.cells #[.int .u32 ((i : Int) + 1), .int .u32 (10 + (i : Int)), .int .i64 (1 + (i : Int)), .int .u32 (10 + (K : Int)), .int .u32 0] 26)) B (.slice pc i cc) (.slice p5 (i + 1) c5) (.slice p2 (i + 1) c2) (rowC i K) (rowA (i + 1) K) (rowB (i + 1))) := Lib.hid (hR7.out.alloc _)
        have hN8 : Hid (VotersAt (W7.alloc (.cells #[.int .u32 ((i : Int) + 1), .int .u32 (10 + (i : Int)), .int .i64 (1 + (i : Int)), .int .u32 (10 + (K : Int)), .int .u32 0] 26)) (.slice (some ⟨W7.heap.size, 0, none⟩) 1 1) [vC K i]) := Lib.hid (VotersAt.new [vC K i] rfl)
        go_wp2_with (first | ((with_reducible refine at_slot 66 ?_); refine wpList_load_mid rfl 26 (.tmp 11) rfl B 0 rfl [.int .u32 ((i : Int) + 1), .int .u32 (10 + (i : Int)), .int .i64 (1 + (i : Int)), .int .u32 (10 + (K : Int)), .int .u32 0] _ hB7.out.range Try.underlying26 rfl voteInfo ?_) | ((with_reducible refine at_slot 68 ?_); refine wpList_append_v rfl (.tmp 65) (.tmp 67) 23 rfl i0 Try.underlying23 hi0 hz0 hz1 hz2 w _ i (rowC i K) rowC_len rfl hT8.out.a ⟨W7.heap.size, 0, none⟩ 1 1 [vC K i] rfl rfl hN8.out (by omega) ?_; intro p8 c8 w8 ho8 hk8 hs8))
        have hR8 := Lib.hid (hT8.out.push (by have := ho8.out; rw [← rowC_step] at this; exact this) hk8.out hs8.out)
        have hB8 : Hid (BlkAt w8 B 26 [.int .u32 ((i : Int) + 1), .int .u32 (10 + (i : Int)), .int .i64 (1 + (i : Int)), .int .u32 (10 + (K : Int)), .int .u32 0]) := Lib.hid ((hB7.out.alloc _).keep hk8.out (fun e => hT8.out.na B e rfl))
        clear hT8 hN8 ho8 hk8 hs8 hR7 hB7
        exact ⟨⟨i + 1, p5, c5, p2, c2, p8, c8, by omega, rfl, rfl, rfl, by go_num, Lib.hid ⟨hR8.out.b, hR8.out.c, hR8.out.a, hR8.out.bc, hR8.out.ca, hR8.out.ab, hR8.out.k⟩⟩, by simp [intOf]; omega⟩
    · obtain rfl : i = N := by omega
      obtain ⟨x1, x2, x3, x4, x5, x6⟩ := one_all i K (by omega) hK'.out
      obtain ⟨P1, hP1⟩ := st_of x1 x2
      obtain ⟨P2, hP2⟩ := st_of x3 x4
      obtain ⟨Y, hY⟩ : ∃ Y, (stOut (rowC i K)).2.1 = Y := ⟨_, rfl⟩
      obtain ⟨P3, hP3⟩ := st_of x5 hY
      rw [hY] at x6
      have hY' := Lib.hid x6
      clear x1 x2 x3 x4 x5 x6 hY
      obtain ⟨h1, h2, h3, -, -, -, h7⟩ := hrel.out
      have ha := Lib.hid h1.at; have hb := Lib.hid h2.at; have hc := Lib.hid h3.at; have hk := Lib.hid h7
      clear h1 h2 h3 h7 hrel
      go_wp2_with fail
      refine (elStable_out _ (rowA i K) (10 + K) 0 P1 i (Lib.hid rowA_len) (by omega) (by omega) _ ha hP1).mono ?_
      rintro e w2 ⟨rfl, k2⟩
      have hb2 := Lib.hid (hb.out.keep k2); have hc2 := Lib.hid (hc.out.keep k2); have hk2 := Lib.hid (hk.out.trans k2)
      clear k2 ha hb hc hk
      go_wp2_with fail
      refine (elStable_out _ (rowB i) 0 0 P2 i (Lib.hid rowB_len) (by omega) (by omega) _ hb2 hP2).mono ?_
      rintro e w3 ⟨rfl, k3⟩
      have hc3 := Lib.hid (hc2.out.keep k3); have hk3 := Lib.hid (hk2.out.trans k3)
      clear k3 hb2 hc2 hk2
      go_wp2_with fail
      refine (elStable_out _ (rowC i K) (10 + K) Y P3 i (Lib.hid rowC_len) (by omega) (by omega) _ hc3 hP3).mono ?_
      rintro e w4 ⟨rfl, k4⟩
      have hk4 := Lib.hid (hk3.out.trans k4)
      clear k4 hc3 hk3
      have hKi := hK'.out
      clear hK' hP1 hP2 hP3 hlt
      by_cases n1 : i = 1
      · subst n1
        obtain rfl : K = 0 := by omega
        obtain rfl : Y = 0 := hY'.out
        go_wp2_with fail
        refine (elElects_any _).mono ?_
        rintro e w5 ⟨rfl, k5⟩
        have hk5 := Lib.hid (hk4.out.trans k5)
        clear k5
        go_wp2_with fail
        go_ret
        exact ⟨rfl, hk5.out⟩
      · by_cases n2 : K + 1 = i
        · obtain rfl : Y = 8 + i := by have := hY'.out; rw [if_neg n1, if_pos n2] at this; exact this
          have f1 : ((K : Int) == (i : Int) - 1) = true := by rw [beq_iff_eq]; omega
          have f2 : (8 + (i : Int) == 10 + ((i : Int) - 2)) = true := by rw [beq_iff_eq]; omega
          have f3 : (i : Int) - 2 ≥ 0 := by omega
          clear n1 n2 hY'
          go_wp2_with fail
          refine (elElects_any _).mono ?_
          rintro e w5 ⟨rfl, k5⟩
          have hk5 := Lib.hid (hk4.out.trans k5)
          clear k5
          go_wp2_with fail
          go_ret
          exact ⟨rfl, hk5.out⟩
        · obtain rfl : Y = 9 + i := by have := hY'.out; rw [if_neg n1, if_neg n2] at this; exact this
          have f1 : ((K : Int) == (i : Int) - 1) = false := by rw [beq_eq_false_iff_ne]; omega
          have f2 : (9 + (i : Int) == 10 + ((i : Int) - 1)) = true := by rw [beq_iff_eq]; omega
          clear n1 n2 hY'
          go_wp2_with fail
          refine (elElects_any _).mono ?_
          rintro e w5 ⟨rfl, k5⟩
          have hk5 := Lib.hid (hk4.out.trans k5)
          clear k5
          go_wp2_with fail
          go_ret
          exact ⟨rfl, hk5.out⟩
theorem lElectOne_walk2 (count who : Int) (w : World) (_h1 : -9223372036854775808 ≤ count) (_h2 : count ≤ 9223372036854775807) (_h3 : -9223372036854775808 ≤ who) (_h4 : who ≤ 9223372036854775807) : Calls Try.prog 3 #[.int .i64 count, .int .i64 who] w (fun e w' => e = .returned (.bool true) ∧ Keeps (fun _ => False) w w') := lElectOne_walk count who w
end Go.Proofs.Ytdjbgjcniacgdaa
