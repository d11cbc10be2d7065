/- elect.putFirst, walked. -/
import Derived.Test.YtdjbgjcniacgdaaELF
namespace Go.Proofs.Ytdjbgjcniacgdaa
open Go.RowKit

theorem VotersAt.cut {w : World} {g o n c : Nat} {ls : List VotD} (h : VotersAt w (.slice (some ⟨g, o, none⟩) n c) ls) (i m : Nat) (him : i + m ≤ n) : VotersAt w (.slice (some ⟨g, o + i * 5, none⟩) m (c - i)) ((ls.drop i).take m) := by
  obtain ⟨p, c', e, -, hc, hr⟩ := h
  injection e with e1 e2 e3
  subst e1; subst e3
  have hlen : ((ls.drop i).take m).length = m := by simp; omega
  refine ⟨some ⟨g, o + i * 5, none⟩, c - i, by rw [hlen], (fun e => nomatch e), by rw [hlen]; omega, fun h0 => ⟨g, o + i * 5, rfl, fun j l hj => ?_⟩⟩
  rw [hlen] at h0
  obtain ⟨g', o', e, hr⟩ := hr (by omega)
  injection e with e; injection e with e1 e2
  subst e1; subst e2
  have hj2 : ls[i + j]? = some l := by
    rw [List.getElem?_take] at hj
    split at hj
    · rwa [List.getElem?_drop] at hj
    · cases hj
  have := hr (i + j) l hj2
  rwa [show o + (i + j) * 5 = o + i * 5 + j * 5 by omega] at this
theorem VotersAt.none_ {w : World} {ad : Addr} {c : Nat} : VotersAt w (.slice (some ad) 0 c) [] := ⟨some ad, c, rfl, (fun e => nomatch e), Nat.zero_le _, fun h => by simp at h⟩
theorem slice_if (P : Prop) [Decidable P] (a b : Addr) (n c : Nat) : Value.slice (if P then some a else some b) n c = .slice (some (if P then a else b)) n c := by split <;> rfl
set_option maxRecDepth 100000 in
set_option maxHeartbeats 1000000 in
theorem elPutFirst_any (g o n c i : Nat) (ls : List VotD) (l : VotD) (hn : ls.length = n) (hi : i < n) (hl : n ≤ 1000000) (hc : n ≤ c) (hc2 : c ≤ 9223372036854775807) (w : World) (hl0 : Hid (ls[i]? = some l)) (h : Hid (VotersAt w (.slice (some ⟨g, o, none⟩) n c) ls)) :
    Calls Try.prog 9 #[.slice (some ⟨g, o, none⟩) n c, .int .i64 i] w (fun e w' => (∃ v, e = .returned v ∧ OwnV w w' v (l :: (ls.take i ++ ls.drop (i + 1)))) ∧ Keeps (fun _ => False) w w') := by
  have hh := Lib.hid hn
  have hi' := Lib.hid hi
  have hc' := Lib.hid hc
  have f1 : IntKind.i64.wrap ((i : Int) + 1) = (i : Int) + 1 := by rw [IntKind.wrap_i64]; omega
  have f2 : ((i : Int) + 1).toNat = i + 1 := by omega
  have f3 : 0 ≤ (i : Int) + 1 := by omega
  have f4 : (i : Int) + 1 ≤ c := by omega
  have f5 : (i : Int) + 1 ≤ n := by omega
  have f6 : i ≤ c := by omega
  have f7 : ¬ c = i := by omega
  have f8 : i + 1 - i = 1 := by omega
  obtain ⟨A3, hA3⟩ : ∃ A3 : Addr, (if c = i + 1 then some (⟨g, o, none⟩ : Addr) else some ⟨g, o + (i + 1) * 5, none⟩) = some A3 := by split <;> exact ⟨_, rfl⟩
  have hA3' := Lib.hid hA3
  clear hn hA3
  go_enter Try.func9, Try.ntmps9
  go_upto_region 1 with fail
  refine wp_region_noPanic ?_
  refine wp_region_held_drew (S := (fun W => Keeps (fun _ => False) w W)) (by kernel_rfl) (((Keeps.refl (fun _ => False) _).drew)) (fun hHeld => ?_)
  refine takeL 0 (v := ?_) rfl (by kernel_rfl) (by kernel_rfl) (by kernel_rfl) (fun _ _ _ h => h) (Or.inl ⟨by rfl, ?_⟩) (by assumption) ?_
  rotate_left
  · (intro wS hSw; go_simp; try with_reducible rfl)
  try simp only [Act.put, List.setIfInBounds_toArray, List.set_cons_zero, List.set_cons_succ]
  refine takeL 1 (v := ?_) rfl (by kernel_rfl) (by kernel_rfl) (by kernel_rfl) (fun _ _ _ h => h) (Or.inl ⟨by rfl, ?_⟩) (by assumption) ?_
  rotate_left
  · (intro wS hSw; go_simp; try with_reducible rfl)
  try simp only [Act.put, List.setIfInBounds_toArray, List.set_cons_zero, List.set_cons_succ]
  refine takeL 2 (v := ?_) rfl (by kernel_rfl) (by kernel_rfl) (by kernel_rfl) (fun _ _ _ h => h) (Or.inl ⟨by rfl, ?_⟩) (by assumption) ?_
  rotate_left
  · (intro wS hSw; go_simp; try with_reducible rfl)
  try simp only [Act.put, List.setIfInBounds_toArray, List.set_cons_zero, List.set_cons_succ]
  refine takeL 3 (v := ?_) rfl (by kernel_rfl) (by kernel_rfl) (by kernel_rfl) (fun _ _ _ h => h) (Or.inl ⟨by rfl, ?_⟩) (by assumption) ?_
  rotate_left
  · (intro wS hSw; go_simp; try with_reducible rfl)
  try simp only [Act.put, List.setIfInBounds_toArray, List.set_cons_zero, List.set_cons_succ]
  refine takeL 4 (v := ?_) rfl (by kernel_rfl) (by kernel_rfl) (by kernel_rfl) (fun _ _ _ h => h) (Or.inl ⟨by rfl, ?_⟩) (by assumption) ?_
  rotate_left
  · (intro wS hSw; go_simp; try with_reducible rfl)
  try simp only [Act.put, List.setIfInBounds_toArray, List.set_cons_zero, List.set_cons_succ]
  refine takeL 5 (v := ?_) rfl (by kernel_rfl) (by kernel_rfl) (by kernel_rfl) (fun _ _ _ h => h) (Or.inl ⟨by rfl, ?_⟩) (by assumption) ?_
  rotate_left
  · (intro wS hSw; go_simp; try with_reducible rfl)
  try simp only [Act.put, List.setIfInBounds_toArray, List.set_cons_zero, List.set_cons_succ]
  refine takeL 6 (v := ?_) rfl (by kernel_rfl) (by kernel_rfl) (by kernel_rfl) (fun _ _ _ h => h) (Or.inl ⟨by rfl, ?_⟩) (by assumption) ?_
  rotate_left
  · (intro wS hSw; go_simp; try with_reducible rfl)
  try simp only [Act.put, List.setIfInBounds_toArray, List.set_cons_zero, List.set_cons_succ]
  refine takeL 7 (v := ?_) rfl (by kernel_rfl) (by kernel_rfl) (by kernel_rfl) (fun _ _ _ h => h) (Or.inl ⟨by rfl, ?_⟩) (by assumption) ?_
  rotate_left
  · (intro wS hSw; go_simp; try with_reducible rfl)
  try simp only [Act.put, List.setIfInBounds_toArray, List.set_cons_zero, List.set_cons_succ]
  refine takeL 8 (v := ?_) rfl (by kernel_rfl) (by kernel_rfl) (by kernel_rfl) (fun _ _ _ h => h) (Or.inl ⟨by rfl, ?_⟩) (by assumption) ?_
  rotate_left
  · (intro wS hSw; go_simp; try with_reducible rfl)
  try simp only [Act.put, List.setIfInBounds_toArray, List.set_cons_zero, List.set_cons_succ]
  refine takeL 9 (v := ?_) rfl (by kernel_rfl) (by kernel_rfl) (by kernel_rfl) (fun _ _ _ h => h) (Or.inl ⟨by rfl, ?_⟩) (by assumption) ?_
  rotate_left
  · (intro wS hSw; go_simp; try with_reducible rfl)
  try simp only [Act.put, List.setIfInBounds_toArray, List.set_cons_zero, List.set_cons_succ]
  refine takeL 10 (v := ?_) rfl (by kernel_rfl) (by kernel_rfl) (by kernel_rfl) (fun _ _ _ h => h) (Or.inl ⟨by rfl, ?_⟩) (by assumption) ?_
  rotate_left
  · (intro wS hSw; go_simp; try with_reducible rfl)
  try simp only [Act.put, List.setIfInBounds_toArray, List.set_cons_zero, List.set_cons_succ]
  refine takeL 11 (v := ?_) rfl (by kernel_rfl) (by kernel_rfl) (by kernel_rfl) (fun _ _ _ h => h) (Or.inl ⟨by rfl, ?_⟩) (by assumption) ?_
  rotate_left
  · (intro wS hSw; go_simp; try with_reducible rfl)
  try simp only [Act.put, List.setIfInBounds_toArray, List.set_cons_zero, List.set_cons_succ]
  try simp only [f8]
  rw [hA3'.out]
  refine stepL 12 rfl (by kernel_rfl) (fun K hK => ?_)
  go_simp
  refine hK.out _ _ ((hHeld.alloc _)) (fun hHeld => ?_)
  clear hK K
  try simp only [Act.put, List.setIfInBounds_toArray, List.set_cons_zero, List.set_cons_succ]
  have hP : Hid (PartsAt (w.alloc (.cells #[.slice (some ⟨g, o + i * 5, none⟩) 1 (c - i), .slice (some ⟨g, o, none⟩) i c, .slice (some A3) (n - (i + 1)) (c - (i + 1))] 23)) w.heap.size [.slice (some ⟨g, o + i * 5, none⟩) 1 (c - i), .slice (some ⟨g, o, none⟩) i c, .slice (some A3) (n - (i + 1)) (c - (i + 1))] [[l], ls.take i, ls.drop (i + 1)]) := Lib.hid (by
    have hk := (Keeps.refl (fun _ => False) w).alloc (.cells #[.slice (some ⟨g, o + i * 5, none⟩) 1 (c - i), .slice (some ⟨g, o, none⟩) i c, .slice (some A3) (n - (i + 1)) (c - (i + 1))] 23)
    have h' := h.out.keep hk
    have hi := hi'.out; have hcc := hc'.out; have hll := hl0.out
    refine ⟨rfl, new_rangeb _ _ _, fun k m hm => ?_⟩
    have hk3 : k = 0 ∨ k = 1 ∨ k = 2 := by have := (List.getElem?_eq_some_iff.1 hm).1; simp at this; omega
    rcases hk3 with rfl | rfl | rfl
    · injection hm with hm; subst hm
      refine ⟨_, _, rfl, ?_⟩
      have := h'.cut i 1 (by omega)
      rwa [show (ls.drop i).take 1 = [l] from by
        obtain ⟨hk, e⟩ := List.getElem?_eq_some_iff.1 hll
        rw [List.drop_eq_getElem_cons hk, e]; rfl] at this
    · injection hm with hm; subst hm
      have := h'.cut 0 i (by omega)
      rw [Nat.zero_mul, Nat.add_zero, Nat.sub_zero, List.drop_zero] at this
      exact ⟨⟨g, o, none⟩, c, by rw [List.length_take, hh.out, Nat.min_eq_left (by omega)]; rfl, by rw [List.length_take, hh.out, Nat.min_eq_left (by omega)]; exact this⟩
    · injection hm with hm; subst hm
      have := h'.cut (i + 1) (n - (i + 1)) (by omega)
      rw [List.take_of_length_le (by rw [List.length_drop, hh.out]; omega)] at this
      refine ⟨A3, c - (i + 1), by rw [List.length_drop, hh.out]; rfl, ?_⟩
      rw [List.length_drop, hh.out]
      have e3 := hA3'.out
      by_cases e : c = i + 1
      · rw [if_pos e] at e3
        have en : n - (i + 1) = 0 := by omega
        have el : ls.drop (i + 1) = [] := List.drop_eq_nil_of_le (by rw [hh.out]; omega)
        rw [en, el]
        exact VotersAt.none_
      · rw [if_neg e] at e3
        injection e3 with e3
        rw [← e3]; rw [← e3] at this
        exact this)
  have hfl : [[l], ls.take i, ls.drop (i + 1)].flatten = l :: (ls.take i ++ ls.drop (i + 1)) := by simp
  have hflen : (l :: (ls.take i ++ ls.drop (i + 1))).length = n := by
    rw [List.length_cons, List.length_append, List.length_take, List.length_drop, hh.out]; omega
  refine stepL 13 rfl (by kernel_rfl) (fun K hK => ?_)
  go_simp
  (refine (elConcat_any _ _ 3 _ _ rfl (by omega) (by rw [hfl, hflen]; omega) (by rw [hfl, hflen]; exact hl) _ (Lib.hid (hP.out.keep ((Keeps.refl (fun _ => False) _).drew)))).mono ?_; rintro e w3 ⟨⟨rv, rfl, ho⟩, k3⟩)
  go_wp2_with fail
  refine hK.out _ _ ((hHeld.trans k3)) (fun hHeld => ?_)
  clear hK K
  try simp only [Act.put, List.setIfInBounds_toArray, List.set_cons_zero, List.set_cons_succ]
  refine takeL 14 (v := ?_) rfl (by kernel_rfl) (by kernel_rfl) (by kernel_rfl) (fun _ _ _ h => h) (Or.inl ⟨by rfl, ?_⟩) (by assumption) ?_
  rotate_left
  · (intro wS hSw; go_simp; try with_reducible rfl)
  try simp only [Act.put, List.setIfInBounds_toArray, List.set_cons_zero, List.set_cons_succ]
  refine wpAnyH_done (by kernel_rfl) (NoPanic.normal ?_) _
  rw [hfl] at ho
  have ho' := Lib.hid ho
  have hH' := Lib.hid hHeld
  clear ho hHeld hP h k3
  go_wp2_with fail
  go_ret
  exact ⟨⟨_, rfl, ⟨ho'.out.1, fun k e => Nat.le_of_lt (Nat.lt_of_lt_of_le (by simp) (ho'.out.2.1 k e)), hH'.out.size⟩⟩, hH'.out⟩
end Go.Proofs.Ytdjbgjcniacgdaa
