/- The document's Parts, walked. -/
import Derived.Test.YtdjmhjgfjbcdkaaSCE
import Derived.Test.YtdjmhjgfjbcdkaaLXE
import Derived.StillTailTactics
namespace Go.Proofs.Ytdjmhjgfjbcdkaa
open Go.RowKit

theorem OwnStrs.one (w : World) (x : List UInt8) : OwnStrs w (w.alloc (.cells #[strv x] 9)) (.slice (some ⟨w.heap.size, 0, none⟩) 1 1) [x] :=
  ⟨⟨rfl, .inr ⟨w.heap.size, 1, #[strv x], rfl, Nat.zero_le _, heap_alloc_last w _, Nat.le_refl _, by unfold maxLen; omega, rfl, rfl⟩⟩, fun k e => by
    have e : some w.heap.size = some k := e
    injection e with e; omega⟩
theorem OwnStrs.last {w0 w : World} {v : Value} {ps : List (List UInt8)} {p : List UInt8} (h : OwnStrs w0 w v (ps ++ [p])) :
    ∃ g c, v = .slice (some ⟨g, 0, none⟩) (ps.length + 1) c ∧ w0.heap.size ≤ g ∧ w.cell? ⟨g, ps.length, none⟩ = some (strv p) ∧ w.frozen? ⟨g, ps.length, none⟩ = false ∧
      ∀ (q : List UInt8) (w' : World), (∀ k, k < w.heap.size → w'.heap[k]? = w.heap[k]?) → OwnStrs w0 (w'.setCell ⟨g, ps.length, none⟩ (strv q)) v (ps ++ [q]) := by
  rcases h.1.2 with ⟨_, h2⟩ | ⟨g, cap, cur, rfl, hb, hgg, hnc, hcm, hcs, htake⟩
  · simp at h2
  · have hl : (ps ++ [p]).length = ps.length + 1 := by simp
    rw [hl] at hnc htake h
    refine ⟨g, cap, by rw [hl], h.2 g rfl, ?_, ?_, ?_⟩
    · have := h.1.cells (g := g) (by simp [Value.ownBlock]) ps.length (strv p) (by simp)
      rw [Addr.add_mid] at this
      simpa using this
    · simp [World.frozen?, hgg]
    · intro q w' hw'
      refine ⟨⟨by simp, .inr ⟨g, cap, cur.setIfInBounds ps.length (strv q), by simp, hb, ?_, by simpa using hnc, hcm, by simp [hcs], ?_⟩⟩, h.2⟩
      · have hlt := lt_of_block hgg
        have hg' := (hw' g hlt).trans hgg
        simp [World.setCell, Array.getElem?_modify, hg']
      · have e : ((ps ++ [p]).map strv).set ps.length (strv q) = (ps ++ [q]).map strv := by
          rw [List.map_append, List.map_append, List.set_append_right _ _ (by simp)]
          simp
        rw [← e, ← htake]
        simp [List.take_set]

def PartsPost (t : List UInt8) (c : UInt8) (w0 : World) (e : Ending) (w' : World) : Prop :=
  ∃ p d, e = .returned (.slice p (partsL c t).length d) ∧ OwnStrs w0 w' (.slice p (partsL c t).length d) (partsL c t) ∧ Keeps (fun _ => False) w0 w'
theorem PartsPost.mk {t : List UInt8} {c : UInt8} {w0 w' : World} {v : Value} (h : OwnStrs w0 w' v (partsL c t)) (k : Keeps (fun _ => False) w0 w') : PartsPost t c w0 (.returned v) w' := by
  obtain ⟨p, d, rfl⟩ := h.slice
  exact ⟨p, d, rfl, h, k⟩
theorem partsL_len (c : UInt8) (l : List UInt8) : (partsL c l).length ≤ l.length + 1 := by
  induction l with
  | nil => simp [partsL]
  | cons b l ih =>
    unfold partsL
    split
    · simp; omega
    · cases hp : partsL c l with
      | nil => simp
      | cons p ps => rw [hp] at ih; simp at ih ⊢; omega
theorem partsL_each (c : UInt8) (l : List UInt8) : ∀ p ∈ partsL c l, p.length ≤ l.length := by
  induction l with
  | nil => simp [partsL]
  | cons b l ih =>
    unfold partsL
    split
    · intro p hp
      rcases List.mem_cons.1 hp with rfl | hp
      · simp
      · have := ih p hp; simp; omega
    · cases hp : partsL c l with
      | nil => simp
      | cons q ps =>
        rw [hp] at ih
        intro p hpm
        rcases List.mem_cons.1 hpm with rfl | hpm
        · have := ih q (by simp); simp; omega
        · have := ih p (by simp [hpm]); simp; omega

set_option maxRecDepth 100000 in
set_option maxHeartbeats 1000000 in
theorem parts_any (s : ByteArray) (c : UInt8) (w : World) (hs : s.size ≤ 8796093022000) :
    Calls Try.prog 55 #[.string s, .int .u8 (c.toNat : Nat)] w (PartsPost s.data.toList c w) := by
  obtain ⟨i0, hi, hz0, hz1, hz2⟩ := info_parts strInfoAll
  go_enter Try.func55, Try.ntmps55
  go_wp2
  go_loopw [5, 6] (fun v i wr => ∃ (k : Nat), k ≤ s.size ∧ i = .int .i64 k ∧ Hid (OwnStrs w wr v (partsL c (s.data.toList.take k))) ∧ Hid (Keeps (fun _ => False) w wr)) (fun _ i _ => s.size - (intOf i).toNat)
  case atStart => exact ⟨0, by omega, rfl, Lib.hid (OwnStrs.one w []), Lib.hid ((Keeps.refl _ _).alloc _)⟩
  case round =>
    obtain ⟨k, hk, rfl, hown, hkeep⟩ := hrel
    by_cases hlt : k < s.size
    · have hl : k < s.data.toList.length := by simpa using hlt
      have hgk : s.data.toList[k] = s[k] := by rw [Array.getElem_toList]; rfl
      have hts : s.data.toList.take (k + 1) = s.data.toList.take k ++ [s[k]] := by rw [List.take_succ_eq_append_getElem hl, hgk]
      have hsn := partsL_snoc c s[k] (s.data.toList.take k)
      rw [← hts] at hsn
      have hpl := partsL_len c (s.data.toList.take k)
      have hpe := partsL_each c (s.data.toList.take k)
      obtain ⟨ps, hps⟩ : ∃ ps, ps = partsL c (s.data.toList.take k) := ⟨_, rfl⟩
      rw [← hps] at hown hsn hpl hpe
      have hpl' : ps.length ≤ k + 1 := by simp at hpl; omega
      have hne : ps ≠ [] := by rw [hps]; exact partsL_ne _ _
      clear hps hts hgk hpl
      by_cases hc : s[k] = c
      · rw [if_pos hc] at hsn
        have d1 : (s[k].toNat == c.toNat) = true := by rw [hc]; simp
        have d2 : ((s[k].toNat : Int) == (c.toNat : Int)) = true := by rw [hc]; simp
        have hsn' := Lib.hid hsn; clear hsn hc hne hpe
        go_wp2_with ((with_reducible refine at_slot 21 ?_); refine wpList_append_sep rfl (.tmp 19) (.tmp 20) 42 rfl 9 i0 (.string ⟨#[]⟩) 1 16 Try.underlying42 hi hz0 hz1 hz2 rfl (by decide) _ ps.length (ps.map strv) rfl (hown.out.1.alloc _) ⟨wr.heap.size, 0, none⟩ 1 1 [strv []] rfl rfl (cells_one rfl _ _) (by simp [Value.oneCell', strv]) (by unfold maxLen; omega) (by omega) ?_; intro q d w1 ho1 hg1 hs1; have ho := Lib.hid ho1; clear ho1; have hg := Lib.hid hg1; clear hg1)
        have hR := OwnStrs.push hown.out [] (hkeep.out.alloc _) hg.out ho.out hs1.out
        go_roundw
        case rel => exact ⟨k + 1, by omega, by go_num, by rw [hsn'.out]; exact Lib.hid hR.1, Lib.hid hR.2⟩
        case measure => simp [intOf]; omega
      · rw [if_neg hc] at hsn
        have d1 : (s[k].toNat == c.toNat) = false := by rw [beq_eq_false_iff_ne]; exact fun h => hc (UInt8.toNat_inj.mp h)
        have d2 : ((s[k].toNat : Int) == (c.toNat : Int)) = false := by rw [beq_eq_false_iff_ne]; exact fun h => hc (UInt8.toNat_inj.mp (by omega))
        obtain ⟨qs, q, rfl⟩ : ∃ qs q, ps = qs ++ [q] := ⟨ps.dropLast, ps.getLast hne, (List.dropLast_concat_getLast hne).symm⟩
        rw [pushLast_snoc] at hsn
        obtain ⟨g, cp, rfl, hgb, hcell, hfro, hset⟩ := hown.out.last
        have hql := hpe q (by simp)
        obtain ⟨X, hX⟩ : ∃ X : ByteArray, X = ⟨q.toArray⟩ := ⟨_, rfl⟩
        have hXs : X.size ≤ s.size := by rw [hX]; simp at hql; show q.toArray.size ≤ _; simp; omega
        have hcell' : wr.cell? ⟨g, qs.length, none⟩ = some (.string X) := by rw [hcell, hX]; rfl
        have hnew : Hid (strv (q ++ [s[k]]) = .string (X ++ s.extract k (k + 1))) := Lib.hid (by
          unfold strv
          have e := Lib.extract_eq s k (k + 1)
          rw [drop_at s k hlt, show k + 1 - k = 1 by omega] at e
          rw [e, hX]
          congr 1)
        have hqs : qs.length ≤ k := by simp at hpl'; omega
        have hset' := Lib.hid hset; clear hset
        have hsn' := Lib.hid hsn; have hX' := Lib.hid hX; clear hsn hX hc hne hpe hcell hql hpl'
        go_wp2_with fail
        have l1 : IntKind.i64.wrap (qs.length : Int) = (qs.length : Int) := IntWalk.i64_in _ (by omega)
        have l2 : IntKind.i64.wrap ((k : Int) + 1) = (k : Int) + 1 := IntWalk.i64_in _ (by omega)
        have l3 : (0 : Int) ≤ (qs.length : Int) := by omega
        have l4 : (qs.length : Int) < (qs.length : Int) + 1 := by omega
        have l5 : (0 : Int) ≤ (k : Int) + 1 := by omega
        have l6 : ((k : Int) + 1).toNat = k + 1 := by omega
        have l7 : (k : Int) ≤ (k : Int) + 1 := by omega
        have l8 : (k : Int) + 1 ≤ s.size := by omega
        have l9 : ¬ (9223372036854775807 < X.size + (min (k + 1) s.size - k)) := by omega
        have l10 : ∀ W : World, (Op.stringOp .add X (s.extract k (k + 1))).run Try.prog W = .ok (.string (X ++ s.extract k (k + 1))) W := fun W => run_string_add_sum W _ _ (by rw [ByteArray.size_extract]; omega)
        go_still_tail 17, (by kernel_rfl)
        change wpList _ _ _ _ _ wr.drew
        clear l1 l2 l3 l4 l5 l6 l7 l8 l9 l10
        go_wp2_with fail
        have hR := hset'.out (q ++ [s[k]]) wr (fun _ _ => rfl)
        rw [hnew.out, ← hsn'.out] at hR
        exact ⟨⟨k + 1, by omega, by go_num, Lib.hid ⟨hR.1, hR.2⟩, Lib.hid ((hkeep.out.setCell (p := ⟨g, qs.length, none⟩) (.inr hgb) _).drew)⟩, by simp [intOf]; omega⟩
    · obtain rfl : k = s.size := by omega
      have ht : s.data.toList.take s.size = s.data.toList := List.take_of_length_le (by simp)
      rw [ht] at hown
      clear ht
      go_wp2
      go_ret
      exact PartsPost.mk hown.out hkeep.out
end Go.Proofs.Ytdjmhjgfjbcdkaa
