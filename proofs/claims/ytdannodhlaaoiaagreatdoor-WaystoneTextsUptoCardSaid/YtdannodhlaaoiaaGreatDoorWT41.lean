/- A disk on which a journal stands; Append, Compact, Begin and Open keep it so, and what power leaves of it is so. All plain. -/
import Derived.Test.YtdannodhlaaoiaaGreatDoorWT40
set_option linter.unusedVariables false
set_option linter.unusedSimpArgs false
set_option linter.unusedVariables false
set_option linter.unusedSimpArgs false
namespace Go.Proofs.YtdannodhlaaoiaaGreatDoor
open Go.RowKit
section
variable [Inhabited BaseN]

def hB (la : Nat → List UInt8) (s : Nat) : Nat → List UInt8
  | 0 => []
  | k + 1 => hB la s k ++ la (s + k)
end
theorem halfB_hB (D : Dk) (s : Nat) : ∀ k, halfB D s k = hB D.la s k := by
  intro k
  induction k with
  | zero => rfl
  | succ k ih => show halfB D s k ++ D.la (s + k) = hB D.la s k ++ D.la (s + k); rw [ih]
theorem hB_len (la : Nat → List UInt8) (s : Nat) : ∀ k, (∀ i, i < k → (la (s + i)).length = 64) → (hB la s k).length = k * 64 := by
  intro k
  induction k with
  | zero => intro _; rfl
  | succ k ih =>
    intro h
    show (hB la s k ++ la (s + k)).length = _
    rw [List.length_append, ih (fun i hi => h i (by omega)), h k (by omega)]; omega
theorem hB_get (la : Nat → List UInt8) (s : Nat) : ∀ k, (∀ i, i < k → (la (s + i)).length = 64) → ∀ j, j < k * 64 → (hB la s k)[j]? = (la (s + j / 64))[j % 64]? := by
  intro k
  induction k with
  | zero => intro _ j hj; omega
  | succ k ih =>
    intro h j hj
    show (hB la s k ++ la (s + k))[j]? = _
    have hl := hB_len la s k (fun i hi => h i (by omega))
    by_cases hk : j < k * 64
    · rw [List.getElem?_append_left (by omega)]
      exact ih (fun i hi => h i (by omega)) j hk
    · rw [List.getElem?_append_right (by omega), hl, show j / 64 = k by omega, show j - k * 64 = j % 64 by omega]
/-- as far as the same sectors -/
theorem hB_take (la la' : Nat → List UInt8) (s k m : Nat) (h : ∀ i, i < k → (la (s + i)).length = 64) (h' : ∀ i, i < k → (la' (s + i)).length = 64) (hm : m ≤ k) (he : ∀ i, i < m → la' (s + i) = la (s + i)) : (hB la' s k).take (m * 64) = (hB la s k).take (m * 64) := by
  apply List.ext_getElem?
  intro j
  rw [List.getElem?_take, List.getElem?_take]
  split
  · rw [hB_get _ _ _ h' j (by omega), hB_get _ _ _ h j (by omega), he (j / 64) (by omega)]
  · rfl
theorem secsOf_get (x : List UInt8) : ∀ (m i : Nat), i < m → (secsOf x m)[i]? = some ((x.drop (i * 64)).take 64) := by
  intro m
  induction m with
  | zero => intro i hi; omega
  | succ m ih =>
    intro i hi
    show (secsOf x m ++ [(x.drop (m * 64)).take 64])[i]? = _
    by_cases h : i < m
    · rw [List.getElem?_append_left (by rw [secsOf_len]; exact h)]; exact ih i h
    · rw [List.getElem?_append_right (by rw [secsOf_len]; omega), secsOf_len, show i - m = 0 by omega, show i = m by omega]; rfl
theorem secsOf_64 (x : List UInt8) (m : Nat) (h : x.length = m * 64) : ∀ y ∈ secsOf x m, y.length = 64 := fun y hy => by
  obtain ⟨i, hi⟩ := List.getElem?_of_mem hy
  have h2 := (List.getElem?_eq_some_iff.1 hi).1
  rw [secsOf_len] at h2
  rw [secsOf_get x m i h2] at hi
  injection hi with hi
  rw [← hi, List.length_take, List.length_drop]; omega
theorem secsOf_split (x : List UInt8) (m : Nat) (h : 1 ≤ m) : secsOf (x.take 64) 1 ++ secsOf (x.drop 64) (m - 1) = secsOf x m := by
  apply List.ext_getElem?
  intro i
  have h1 : (secsOf (x.take 64) 1).length = 1 := secsOf_len _ _
  by_cases hi : i < m
  · rw [secsOf_get x m i hi]
    by_cases h0 : i = 0
    · subst h0
      rw [List.getElem?_append_left (by omega), secsOf_get _ 1 0 (by omega)]
      simp [List.take_take]
    · rw [List.getElem?_append_right (by omega), h1, secsOf_get _ (m - 1) (i - 1) (by omega), List.drop_drop, show 64 + (i - 1) * 64 = i * 64 by omega]
  · rw [List.getElem?_eq_none (by rw [List.length_append, secsOf_len, secsOf_len]; omega), List.getElem?_eq_none (by rw [secsOf_len]; omega)]
theorem updL_len (la : Nat → List UInt8) (s : Nat) (l : List (List UInt8)) (hl : ∀ x ∈ l, x.length = 64) (i : Nat) (hi : (la i).length = 64) : (updL la s l i).length = 64 := Mix.upd.len hl i hi
theorem updL_app (la : Nat → List UInt8) (s : Nat) (a b : List (List UInt8)) : updL (updL la (s + a.length) b) s a = updL la s (a ++ b) := by
  funext i
  by_cases h : i < s
  · rw [updL_out _ _ _ _ (.inl h), updL_out _ _ _ _ (.inl (by omega)), updL_out _ _ _ _ (.inl h)]
  · by_cases h2 : i < s + a.length
    · obtain ⟨k, rfl⟩ : ∃ k, i = s + k := ⟨i - s, by omega⟩
      have hk : k < a.length := by omega
      rw [updL_in _ _ _ k a[k] (List.getElem?_eq_getElem hk), updL_in _ _ _ k a[k] (by rw [List.getElem?_append_left hk]; exact List.getElem?_eq_getElem hk)]
    · rw [updL_out _ s a i (.inr (by omega))]
      obtain ⟨k, rfl⟩ : ∃ k, i = s + a.length + k := ⟨i - s - a.length, by omega⟩
      by_cases hk : k < b.length
      · rw [updL_in _ _ _ k b[k] (List.getElem?_eq_getElem hk), Nat.add_assoc, updL_in _ _ _ (a.length + k) b[k] (by rw [List.getElem?_append_right (by omega), show a.length + k - a.length = k by omega]; exact List.getElem?_eq_getElem hk)]
      · rw [updL_out _ _ _ _ (.inr (by omega)), updL_out _ _ _ _ (.inr (by rw [List.length_append]; omega))]
/-- a half in which bytes were written -/
theorem hB_upd (la : Nat → List UInt8) (s k a M : Nat) (B : List UInt8) (h : ∀ i, i < k → (la (s + i)).length = 64) (hB' : B.length = M * 64) (ha : a + M ≤ k) : hB (updL la (s + a) (secsOf B M)) s k = patch (hB la s k) (a * 64) B := by
  have h2 : ∀ i, i < k → (updL la (s + a) (secsOf B M) (s + i)).length = 64 := fun i hi => updL_len _ _ _ (secsOf_64 B M hB') _ (h i hi)
  have hl := hB_len la s k h
  apply List.ext_getElem?
  intro j
  rw [patch_get _ _ _ (by rw [hB', hl]; omega)]
  by_cases hj : j < k * 64
  · rw [hB_get _ _ _ h2 j hj]
    split
    · rename_i hin
      rw [show s + j / 64 = s + a + (j / 64 - a) by omega, updL_in _ _ _ (j / 64 - a) _ (secsOf_get B M _ (by omega)), List.getElem?_take, if_pos (by omega), List.getElem?_drop]
      congr 1; omega
    · rename_i hin
      rw [updL_out _ _ _ _ (by rw [secsOf_len]; omega), hB_get _ _ _ h j hj]
  · rw [List.getElem?_eq_none (by rw [hB_len _ _ _ h2]; omega), if_neg (by omega), List.getElem?_eq_none (by omega)]
section
variable [Inhabited BaseN]
def hz (n : Nat) : Nat := (n - 2) / 2
/-- a disk on which a journal with these entries stands -/
structure JD (la : Nat → List UInt8) (n gen half : Nat) (L : List (List UInt8)) : Prop where
  n4 : 4 ≤ n
  hlf : half ≤ 1
  gn : gen < 18446744073709551616
  len : ∀ i, i < n → (la i).length = 64
  slot : la (gen % 2) = slotB gen half
  other : ∀ g h, slotOf (la (1 - gen % 2)) (1 - gen % 2) = some (g, h) → g < gen
  used : usedOf L ≤ hz n
  lens : ∀ l ∈ L, 1 ≤ l.length ∧ l.length ≤ 8192
  img : (hB la (2 + half * hz n) (hz n)).take (usedOf L * 64) = framesB gen 0 L
  next : usedOf L < hz n → (la (2 + half * hz n + usedOf L)).take 13 ≠ leadB gen L.length
end
theorem hz_in {n half k : Nat} (h4 : 4 ≤ n) (hh : half ≤ 1) (hk : k < hz n) : 2 + half * hz n + k < n := by
  have h1 : half * hz n ≤ 1 * hz n := Nat.mul_le_mul_right _ hh
  have h2 : 2 * hz n ≤ n - 2 := by unfold hz; omega
  omega
theorem JD.of {la la' : Nat → List UInt8} {n gen half : Nat} {L : List (List UInt8)} (h : JD la n gen half L) (hl : ∀ i, i < n → (la' i).length = 64) (h0 : ∀ i, i < 2 → la' i = la i) (hs : ∀ k, k ≤ usedOf L → k < hz n → la' (2 + half * hz n + k) = la (2 + half * hz n + k)) : JD la' n gen half L :=
  { n4 := h.n4, hlf := h.hlf, gn := h.gn, len := hl, used := h.used, lens := h.lens
    slot := by rw [h0 _ (by omega)]; exact h.slot
    other := by rw [h0 _ (by omega)]; exact h.other
    img := by
      rw [← h.img]
      exact hB_take _ _ _ _ _ (fun i hi => h.len _ (hz_in h.n4 h.hlf hi)) (fun i hi => hl _ (hz_in h.n4 h.hlf hi)) h.used (fun i hi => hs i (by omega) (by have := h.used; omega))
    next := fun hu => by rw [hs _ (Nat.le_refl _) hu]; exact h.next hu }
theorem JD.lenL {la : Nat → List UInt8} {n gen half : Nat} {L : List (List UInt8)} (h : JD la n gen half L) : L.length ≤ hz n := Nat.le_trans (usedOf_ge L) h.used
/-- the slots of a journal's disk -/
theorem JD.best {D : Dk} {gen half : Nat} {L : List (List UInt8)} (h : JD D.la D.n gen half L) : bestK D 2 = some (gen, half) := by
  have hs : slotOf (D.la (gen % 2)) (gen % 2) = some (gen, half) := by rw [h.slot]; exact slotOf_slot gen half h.gn h.hlf
  have ho := h.other
  show pick (pick none (slotOf (D.la 0) 0)) (slotOf (D.la 1) 1) = _
  rcases Nat.mod_two_eq_zero_or_one gen with e | e
  · rw [e] at hs ho
    rw [hs]
    cases e2 : slotOf (D.la 1) 1 with
    | none => rfl
    | some q =>
      obtain ⟨g, h'⟩ := q
      have := ho g h' e2
      show (if gen < g then some (g, h') else some (gen, half)) = _
      rw [if_neg (by omega)]
  · rw [e] at hs ho
    rw [hs]
    cases e2 : slotOf (D.la 0) 0 with
    | none => rfl
    | some q =>
      obtain ⟨g, h'⟩ := q
      have := ho g h' e2
      show (if g < gen then some (gen, half) else some (g, h')) = _
      rw [if_pos this]
theorem JD.frames {la : Nat → List UInt8} {n gen half : Nat} {L : List (List UInt8)} (h : JD la n gen half L) (f : Nat) (hf : hz n * 64 < f) : framesOf f (hB la (2 + half * hz n) (hz n)) gen 0 = L := by
  have hl := hB_len la (2 + half * hz n) (hz n) (fun i hi => h.len _ (hz_in h.n4 h.hlf hi))
  have hu := h.used
  rw [← List.take_append_drop (usedOf L * 64) (hB la (2 + half * hz n) (hz n)), h.img]
  refine framesOf_img gen L 0 f _ (by have := h.lenL; omega) h.lens (fun h64 => ?_)
  rw [List.length_drop, hl] at h64
  have hlt : usedOf L < hz n := by omega
  have h1 := h.next hlt
  rw [Nat.zero_add]
  intro e
  apply h1
  rw [← e]
  apply List.ext_getElem?
  intro j
  rw [List.getElem?_take, List.getElem?_take, List.getElem?_drop]
  split
  · rw [hB_get _ _ _ (fun i hi => h.len _ (hz_in h.n4 h.hlf hi)) _ (by omega), show (usedOf L * 64 + j) / 64 = usedOf L by omega, show (usedOf L * 64 + j) % 64 = j by omega]
  · rfl
theorem open_spec {D : Dk} {gen half : Nat} {L : List (List UInt8)} (hq : D.on = true) (h : JD D.la D.n gen half L) : openE D = 0 ∧ openG D = gen ∧ openH D = half ∧ openL D = L := by
  have hb := h.best
  have e2 : openG D = gen := by unfold openG; rw [hb]; rfl
  have e3 : openH D = half := by unfold openH; rw [hb]; rfl
  have h4 := h.n4
  refine ⟨?_, e2, e3, ?_⟩
  · unfold openE
    rw [if_neg (by omega), if_neg (by rw [hq]; decide), hb]; rfl
  · unfold openL
    rw [e2, e3, halfB_hB]
    exact h.frames _ (Nat.lt_succ_self _)
section
variable [Inhabited BaseN]
/-- behind a call that writes: done, or stopped by power -/
def StepPost (D : Dk) (gen half : Nat) (L : List (List UInt8)) (gen' half' : Nat) (L' : List (List UInt8)) (r : Int × Dk) : Prop :=
  (r.1 = 0 ∧ Quiet r.2 ∧ r.2.n = D.n ∧ JD r.2.la D.n gen' half' L' ∧ (D.left < 0 → r.2.left = D.left)) ∨
  (r.1 = 2 ∧ r.2.on = false ∧ r.2.n = D.n ∧ 0 ≤ D.left ∧ ∀ kept, Quiet (r.2.crash kept) ∧ (r.2.crash kept).left = -1 ∧ (JD (r.2.crash kept).la D.n gen half L ∨ JD (r.2.crash kept).la D.n gen' half' L'))
end
theorem wrB_take (D : Dk) (gen half place used : Nat) (e : List UInt8) : (wrB D gen half place used e).take (takes e.length * 64) = frameB gen place e := by
  unfold wrB
  have hl := frameB_len gen place e
  split
  · rw [← hl]; exact List.take_left
  · rw [← hl]; exact List.take_length
theorem wr_spec (D : Dk) (gen half : Nat) (L : List (List UInt8)) (e : List UInt8) (hq : Quiet D) (h : JD D.la D.n gen half L) (he : 1 ≤ e.length ∧ e.length ≤ 8192) (hu : usedOf L + takes e.length ≤ hz D.n) :
    StepPost D gen half L gen half (L ++ [e]) (D.wr gen half L.length (usedOf L) e) := by
  have hn4 := h.n4
  have hh := h.hlf
  have hT : 1 ≤ takes e.length := by unfold takes; omega
  obtain ⟨lr, hlr⟩ : ∃ lr, leftR D gen half (usedOf L + takes e.length) (L.length + 1) = lr := ⟨_, rfl⟩
  obtain ⟨B, hB⟩ : ∃ B, wrB D gen half L.length (usedOf L) e = B := ⟨_, rfl⟩
  obtain ⟨M, hM⟩ : ∃ M, wrM D gen half L.length (usedOf L) e = M := ⟨_, rfl⟩
  have hBl : B.length = M * 64 := by rw [← hB, ← hM]; exact wrB_len ..
  have hBt : B.take (takes e.length * 64) = frameB gen L.length e := by rw [← hB]; exact wrB_take ..
  have hl2 : lr.2 = 0 := by
    rw [← hlr]; unfold leftR
    split
    · rfl
    · rw [if_neg (by rw [hq.on]; decide)]
  have hM1 : takes e.length ≤ M ∧ usedOf L + M ≤ hz D.n := by
    rw [← hM]; unfold wrM
    rw [hlr]
    split
    · rename_i hl1
      refine ⟨by omega, ?_⟩
      rw [← hlr] at hl1
      unfold leftR at hl1
      split at hl1
      · cases hl1
      · rename_i hge
        have : ¬ hz D.n ≤ usedOf L + takes e.length := hge
        omega
    · omega
  obtain ⟨S, hS⟩ : ∃ S, 2 + half * hz D.n = S := ⟨_, rfl⟩
  have hin : ∀ k, k < hz D.n → S + k < D.n := fun k hk => by rw [← hS]; exact hz_in hn4 hh hk
  have hMle : S + usedOf L + M ≤ D.n := by
    have := hin (usedOf L + M - 1) (by omega); omega
  have hwr : D.wr gen half L.length (usedOf L) e = (let p := if 1 < M then D.writes (S + usedOf L + 1) (secsOf (B.drop 64) (M - 1)) else (0, D); if p.1 ≠ 0 then p else p.2.writes (S + usedOf L) (secsOf (B.take 64) 1)) := by
    unfold Dk.wr
    rw [hlr, if_neg (by rw [hl2]; decide), hB, hM]
    have : 2 + half * hsz D = S := hS
    rw [this]
  have hd64 : (B.drop 64).length = (M - 1) * 64 := by rw [List.length_drop, hBl]; omega
  have ht64 : (B.take 64).length = 1 * 64 := by rw [List.length_take, hBl]; omega
  have s1 := secsOf_64 _ _ hd64
  have s2 := secsOf_64 _ _ ht64
  obtain ⟨x0, hx0⟩ : ∃ x, secsOf (B.take 64) 1 = [x] := ⟨_, rfl⟩
  -- the disk with the entry
  have hnew : ∀ la, la = updL (updL D.la (S + usedOf L + 1) (secsOf (B.drop 64) (M - 1))) (S + usedOf L) (secsOf (B.take 64) 1) → JD la D.n gen half (L ++ [e]) := by
    intro la hla
    have e1 : la = updL D.la (S + usedOf L) (secsOf B M) := by
      rw [hla, ← secsOf_split B M (by omega)]
      exact updL_app D.la (S + usedOf L) (secsOf (B.take 64) 1) (secsOf (B.drop 64) (M - 1))
    have hsl : ∀ i, i < 2 → la i = D.la i := fun i hi => by rw [e1]; exact updL_out _ _ _ _ (.inl (by omega))
    have hlen : ∀ i, i < D.n → (D.la (S + i)).length = 64 ∨ True := fun _ _ => .inr trivial
    have hlenH : ∀ i, i < hz D.n → (D.la (S + i)).length = 64 := fun i hi => h.len _ (hin i hi)
    have himg := hB_upd D.la S (hz D.n) (usedOf L) M B hlenH hBl hM1.2
    have hlx := hB_len D.la S (hz D.n) hlenH
    have hlens : ∀ l ∈ L ++ [e], 1 ≤ l.length ∧ l.length ≤ 8192 := fun l hl => by
      rcases List.mem_append.1 hl with h1 | h1
      · exact h.lens l h1
      · rw [List.mem_singleton.1 h1]; exact he
    have hsl1 : la (gen % 2) = slotB gen half := by rw [hsl _ (by omega)]; exact h.slot
    have hsl2 : ∀ g h2, slotOf (la (1 - gen % 2)) (1 - gen % 2) = some (g, h2) → g < gen := by rw [hsl _ (by omega)]; exact h.other
    have hll : ∀ i, i < D.n → (la i).length = 64 := fun i hi => by rw [e1]; exact updL_len _ _ _ (secsOf_64 B M hBl) _ (h.len i hi)
    refine ⟨hn4, hh, h.gn, hll, hsl1, hsl2, by rw [usedOf_snoc]; exact hu, hlens, ?_, ?_⟩
    · rw [hS, e1, himg, framesB_snoc, Nat.zero_add, ← h.img, hS, ← hBt, usedOf_snoc]
      apply List.ext_getElem?
      intro j
      rw [List.getElem?_take, patch_get _ _ _ (by rw [hBl, hlx]; omega), List.getElem?_append, List.length_take, hlx, List.getElem?_take, List.getElem?_take]
      have hmin : min (usedOf L * 64) (hz D.n * 64) = usedOf L * 64 := by omega
      rw [hmin]
      by_cases hj : j < usedOf L * 64
      · rw [if_pos (by omega), if_neg (by omega), if_pos hj, if_pos hj]
      · rw [if_neg hj]
        by_cases hj2 : j - usedOf L * 64 < takes e.length * 64
        · rw [if_pos (by omega), if_pos (by rw [hBl]; omega), if_pos hj2]
        · rw [if_neg (by omega), if_neg hj2]
    · intro hlt
      rw [usedOf_snoc] at hlt ⊢
      rw [hS, e1, List.length_append, List.length_singleton]
      have hge : ¬ hsz D ≤ usedOf L + takes e.length := by show ¬ hz D.n ≤ _; omega
      by_cases hl1 : lr.1 = true
      · have hMv : M = takes e.length + 1 := by rw [← hM]; unfold wrM; rw [hlr, if_pos hl1]
        have hBv : B = frameB gen L.length e ++ noughts 64 := by rw [← hB]; unfold wrB; rw [hlr, if_pos hl1]
        rw [show S + (usedOf L + takes e.length) = S + usedOf L + takes e.length by omega, updL_in _ _ _ (takes e.length) _ (secsOf_get B M _ (by omega)), hBv]
        have e5 : (frameB gen L.length e ++ noughts 64).drop (takes e.length * 64) = noughts 64 := by
          have h := List.drop_left (l₁ := frameB gen L.length e) (l₂ := noughts 64)
          rw [frameB_len] at h; exact h
        rw [e5, List.take_take]
        exact noughts_lead 64 gen (L.length + 1)
      · have hMv : M = takes e.length := by rw [← hM]; unfold wrM; rw [hlr, if_neg hl1]
        rw [updL_out _ _ _ _ (by rw [secsOf_len]; omega)]
        intro hc
        apply hl1
        rw [← hlr]
        unfold leftR
        rw [if_neg hge, if_neg (by rw [hq.on]; decide)]
        show (List.take 13 (D.la (2 + half * hz D.n + (usedOf L + takes e.length))) == leadB gen (L.length + 1)) = true
        rw [hS, hc]
        exact beq_self_eq_true _
  -- the disk without it
  have hold : ∀ la, Mix D.la la (S + usedOf L + 1) (secsOf (B.drop 64) (M - 1)) → JD la D.n gen half L := fun la hm =>
    h.of (fun i hi => hm.len s1 i (h.len i hi)) (fun i hi => hm.out i (.inl (by omega))) (fun k hk hk2 => by rw [hS]; exact hm.out _ (.inl (by omega)))
  have hphase1 : WritesPost D (S + usedOf L + 1) (secsOf (B.drop 64) (M - 1)) (if 1 < M then D.writes (S + usedOf L + 1) (secsOf (B.drop 64) (M - 1)) else (0, D)) ∨ ((if 1 < M then D.writes (S + usedOf L + 1) (secsOf (B.drop 64) (M - 1)) else (0, D)) = (0, D) ∧ M = 1) := by
    by_cases h1 : 1 < M
    · left
      rw [if_pos h1]
      exact writes_spec D _ _ hq (by rw [secsOf_len]; omega) s1
    · right
      rw [if_neg h1]
      exact ⟨rfl, by omega⟩
  have hPn : (if 1 < M then D.writes (S + usedOf L + 1) (secsOf (B.drop 64) (M - 1)) else (0, D)).2.n = D.n := by
    split
    · exact (D.writes_same _ _).2.2
    · rfl
  obtain ⟨P, hP⟩ : ∃ P, (if 1 < M then D.writes (S + usedOf L + 1) (secsOf (B.drop 64) (M - 1)) else (0, D)) = P := ⟨_, rfl⟩
  rw [hP] at hphase1 hwr hPn
  rw [hwr]
  simp only
  -- behind phase 1
  have hgo : P.1 = 0 → Quiet P.2 → P.2.la = updL D.la (S + usedOf L + 1) (secsOf (B.drop 64) (M - 1)) → (D.left < 0 → P.2.left = D.left) → (0 ≤ P.2.left → 0 ≤ D.left) →
      StepPost D gen half L gen half (L ++ [e]) (if P.1 ≠ 0 then P else P.2.writes (S + usedOf L) (secsOf (B.take 64) 1)) := by
    intro p1 pq pla pleft pleft2
    rw [if_neg (by rw [p1]; decide)]
    have hw := writes_spec P.2 (S + usedOf L) (secsOf (B.take 64) 1) pq (by rw [hPn, secsOf_len]; omega) s2
    have hwn := (P.2.writes_same (S + usedOf L) (secsOf (B.take 64) 1)).2.2
    rcases hw with ⟨w1, w2, w3, w4⟩ | ⟨w1, w2, w3, w4, w5⟩
    · left
      exact ⟨w1, w2, by rw [hwn, hPn], hnew _ (by rw [w3, pla]), fun hl => by have := pleft hl; omega⟩
    · right
      refine ⟨w1, w2, by rw [hwn, hPn], pleft2 w3, fun kept => ?_⟩
      obtain ⟨k1, k2, k3⟩ := w5 kept
      refine ⟨k1, k2, ?_⟩
      obtain ⟨lc, hlc⟩ : ∃ lc, ((P.2.writes (S + usedOf L) (secsOf (B.take 64) 1)).2.crash kept).la = lc := ⟨_, rfl⟩
      rw [hlc] at k3 ⊢
      rw [hx0, pla] at k3
      rcases k3.one with k | k
      · left
        rw [k]
        exact hold _ Mix.upd
      · right
        exact hnew _ (by rw [k, hx0])
  rcases hphase1 with (⟨w1, w2, w3, w4⟩ | ⟨w1, w2, w3, w4, w5⟩) | ⟨w1, w2⟩
  · exact hgo w1 w2 w3 (fun hl => by omega) (fun hl => by omega)
  · rw [if_pos (by rw [w1]; decide)]
    right
    refine ⟨w1, w2, hPn, w3, fun kept => ?_⟩
    obtain ⟨k1, k2, k3⟩ := w5 kept
    exact ⟨k1, k2, .inl (hold _ k3)⟩
  · rw [w1] at hgo ⊢
    refine hgo rfl hq ?_ (fun _ => rfl) (fun h => h)
    have e0 : secsOf (B.drop 64) (M - 1) = [] := by rw [w2]; rfl
    rw [e0, updL_nil]
end Go.Proofs.YtdannodhlaaoiaaGreatDoor
