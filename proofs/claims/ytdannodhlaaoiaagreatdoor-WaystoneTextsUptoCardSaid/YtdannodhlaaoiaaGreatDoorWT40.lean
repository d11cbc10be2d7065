/- Compact. -/
import Derived.Test.YtdannodhlaaoiaaGreatDoorWT39
set_option linter.unusedVariables false
set_option linter.unusedSimpArgs false
set_option linter.unusedVariables false
set_option linter.unusedSimpArgs false
namespace Go.Proofs.YtdannodhlaaoiaaGreatDoor
open Go.RowKit
section
variable [Inhabited BaseN]

/-- what Compact answers, and what it makes: disk, slot, entries, ended -/
def cpR (D : Dk) (gen half : Nat) (L0 L : List (List UInt8)) : Int × Dk × (Nat × Nat) × List (List UInt8) × Bool :=
  if L.all allowedB = false then (1, D, (gen, half), L0, false) else if hsz D < usedOf L ∨ gen = 18446744073709551615 then (5, D, (gen, half), L0, false) else
  if (mvR D (gen + 1) (1 - half) L).1 = 0 then (0, (mvR D (gen + 1) (1 - half) L).2, (gen + 1, 1 - half), L, false) else ((mvR D (gen + 1) (1 - half) L).1, (mvR D (gen + 1) (1 - half) L).2, (gen, half), [], true)
def CpPost (w0 : World) (jb : Nat) (r : Int × Dk × (Nat × Nat) × List (List UInt8) × Bool) (w : World) (x : Ending) (w' : World) : Prop :=
  x = .returned (.int .i64 r.1) ∧ ∃ ev', JAt w0 w' jb r.2.1 r.2.2.1.1 r.2.2.1.2 ev' r.2.2.2.1 r.2.2.2.2 ∧ Keeps (fun k => DTy w k ∨ k = jb) w w'
end
theorem JHead.setS {w : World} {jb db gen half : Nat} {ev : Value} {used : Nat} {ended : Bool} (h : JHead w jb db gen half ev used ended) (g2 h2 : Nat) : JHead (w.setCells jb 1 [.int .u64 g2, .int .i64 h2]) jb db g2 h2 ev used ended := by
  have e1 := heap_put h.hd 1 (.int .u64 g2)
  have e2 := heap_put e1 2 (.int .i64 h2)
  refine ⟨?_⟩
  show ((w.setCell ⟨jb, 1, none⟩ (.int .u64 g2)).setCell ⟨jb, 2, none⟩ (.int .i64 h2)).heap[jb]? = _
  simpa using e2
theorem JHead.there1 {w : World} {jb db gen half : Nat} {ev : Value} {used : Nat} {ended : Bool} (h : JHead w jb db gen half ev used ended) : w.there jb 1 2 := fun j hj => by
  match j, hj with
  | 0, _ => exact ⟨by rw [show 1 + 0 = 1 from rfl, h.c1]; rfl, h.fr 1⟩
  | 1, _ => exact ⟨by rw [show 1 + 1 = 2 from rfl, h.c2]; rfl, h.fr 2⟩
  | j + 2, hj => omega
theorem SlotAt.there {w : World} {sb gen half : Nat} (h : SlotAt w sb gen half) : w.there sb 0 2 := fun j hj => by
  have h' : w.heap[sb]? = _ := h
  match j, hj with
  | 0, _ => exact ⟨by rw [show 0 + 0 = 0 from rfl, h.c0]; rfl, by simp [World.frozen?, h']⟩
  | 1, _ => exact ⟨by rw [show 0 + 1 = 1 from rfl, h.c1]; rfl, by simp [World.frozen?, h']⟩
  | j + 2, hj => omega
theorem SlotAt.made (w : World) (a b : Value) (g h : Nat) : SlotAt ((w.alloc (.cells #[a, b] 90)).setCells w.heap.size 0 [.int .u64 g, .int .i64 h]) w.heap.size g h := by
  have e0 := heap_alloc_last w (.cells #[a, b] 90)
  have e1 := heap_put e0 0 (.int .u64 g)
  have e2 := heap_put e1 1 (.int .i64 h)
  show (((w.alloc (.cells #[a, b] 90)).setCell ⟨w.heap.size, 0, none⟩ (.int .u64 g)).setCell ⟨w.heap.size, 1, none⟩ (.int .i64 h)).heap[w.heap.size]? = _
  simpa using e2
theorem usedOf_ge (L : List (List UInt8)) : L.length ≤ usedOf L := by
  induction L with
  | nil => exact Nat.zero_le _
  | cons x r ih => rw [usedOf_cons, List.length_cons]; have : 1 ≤ takes x.length := by (unfold takes; omega)
                   omega
theorem mvR_same (D : Dk) (gen half : Nat) (L : List (List UInt8)) : (mvR D gen half L).2.b = D.b := by
  unfold mvR
  simp only
  split
  · exact (D.writes_same _ _).1
  · exact ((Dk.writes_same _ _ _).1).trans (D.writes_same _ _).1
section
variable [Inhabited BaseN]
end
end Go.Proofs.YtdannodhlaaoiaaGreatDoor
/- Frames and slots that were laid are read again; what writing makes of a disk, wherever power goes. All plain. -/
set_option linter.unusedVariables false
set_option linter.unusedSimpArgs false
namespace Go.Proofs.YtdannodhlaaoiaaGreatDoor
open Go.RowKit
section
variable [Inhabited BaseN]

end
theorem patch_at (x : List UInt8) (i : Nat) (l : List UInt8) (h : i + l.length ≤ x.length) (n : Nat) (hn : l.length = n) : ((patch x i l).drop i).take n = l := by
  subst hn
  apply List.ext_getElem?
  intro j
  rw [List.getElem?_take, List.getElem?_drop, patch_get _ _ _ h]
  split
  · rw [if_pos (by omega), show i + j - i = j by omega]
  · rw [List.getElem?_eq_none (by omega)]
theorem patch_apart (x : List UInt8) (i : Nat) (l : List UInt8) (h : i + l.length ≤ x.length) (a n : Nat) (hap : a + n ≤ i ∨ i + l.length ≤ a) : ((patch x i l).drop a).take n = (x.drop a).take n := by
  apply List.ext_getElem?
  intro j
  rw [List.getElem?_take, List.getElem?_take, List.getElem?_drop, List.getElem?_drop, patch_get _ _ _ h]
  split
  · rw [if_neg (by omega)]
  · rfl
theorem part_app (x r : List UInt8) (a n : Nat) (h : a + n ≤ x.length) : ((x ++ r).drop a).take n = (x.drop a).take n := by
  apply List.ext_getElem?
  intro j
  rw [List.getElem?_take, List.getElem?_take, List.getElem?_drop, List.getElem?_drop]
  split
  · rw [List.getElem?_append_left (by omega)]
  · rfl
section
variable [Inhabited BaseN]
/-! a frame -/
end
theorem frame_part (gen p : Nat) (e : List UInt8) (a n : Nat) (hap : a + n ≤ 13) : ((frameB gen p e).drop a).take n = ((leadB gen p).drop a).take n := by
  have ht := takes_ge e.length
  unfold frameB
  rw [patch_apart _ _ _ (by rw [frame3_len, be_len]; omega) _ _ (.inl (by omega))]
  unfold frame3
  rw [patch_apart _ _ _ (by rw [frame2_len]; omega) _ _ (.inl (by omega))]
  unfold frame2
  rw [patch_apart _ _ _ (by rw [frame1_len, be_len]; omega) _ _ (.inl (by omega))]
  unfold frame1
  apply List.ext_getElem?
  intro j
  rw [List.getElem?_take, List.getElem?_take, List.getElem?_drop, List.getElem?_drop, patch_get _ _ _ (by rw [leadB_len, noughts_len]; omega)]
  split
  · rw [if_pos (by rw [leadB_len]; omega)]; rfl
  · rfl
theorem frame_lead (gen p : Nat) (e : List UInt8) : (frameB gen p e).take 13 = leadB gen p := by
  have h := frame_part gen p e 0 13 (by omega)
  rw [List.drop_zero, List.drop_zero] at h
  rw [h, List.take_of_length_le (by rw [leadB_len]; omega)]
theorem frame_count (gen p : Nat) (e : List UInt8) : ((frameB gen p e).drop 13).take 2 = be 2 e.length := by
  have ht := takes_ge e.length
  unfold frameB
  rw [patch_apart _ _ _ (by rw [frame3_len, be_len]; omega) _ _ (.inl (by omega))]
  unfold frame3
  rw [patch_apart _ _ _ (by rw [frame2_len]; omega) _ _ (.inl (by omega))]
  unfold frame2
  exact patch_at _ _ _ (by rw [frame1_len, be_len]; omega) 2 (be_len _ _)
theorem frame_entry (gen p : Nat) (e : List UInt8) : ((frameB gen p e).drop 19).take e.length = e := by
  have ht := takes_ge e.length
  unfold frameB
  rw [patch_apart _ _ _ (by rw [frame3_len, be_len]; omega) _ _ (.inr (by rw [be_len]; omega))]
  unfold frame3
  exact patch_at _ _ _ (by rw [frame2_len]; omega) _ rfl
theorem frameOf_frame (gen p : Nat) (e r : List UInt8) (h1 : 1 ≤ e.length) (h2 : e.length ≤ 8192) : frameOf (frameB gen p e ++ r) gen p = some e := by
  have hl := frameB_len gen p e
  have ht := takes_ge e.length
  have hn : beVal (((frameB gen p e ++ r).drop 13).take 2) = e.length := by
    rw [part_app _ _ _ _ (by rw [hl]; omega), frame_count, beVal_be]
    exact Nat.mod_eq_of_lt (by omega)
  have hx : (frameB gen p e ++ r).length = takes e.length * 64 + r.length := by rw [List.length_append, hl]
  have he : ((frameB gen p e ++ r).drop 19).take e.length = e := by rw [part_app _ _ _ _ (by rw [hl]; omega), frame_entry]
  unfold frameOf
  simp only [hn]
  rw [if_neg (by rw [hx]; omega), he, if_pos (by rw [← hl]; exact List.take_left)]
theorem frameOf_none (x : List UInt8) (gen p : Nat) (h : 64 ≤ x.length → x.take 13 ≠ leadB gen p) : frameOf x gen p = none := by
  unfold frameOf
  simp only
  split
  · rfl
  · rename_i hb
    split
    · rename_i e
      exfalso
      apply h (by omega)
      have h2 := congrArg (List.take 13) e
      rw [frame_lead, List.take_take] at h2
      rw [← h2]
      congr 1
      have := takes_ge (beVal ((x.drop 13).take 2))
      omega
    · rfl
theorem framesOf_stop (f : Nat) (x : List UInt8) (gen p : Nat) (h : frameOf x gen p = none) : framesOf (f + 1) x gen p = [] := by unfold framesOf; rw [h]
theorem framesOf_go (f : Nat) (x : List UInt8) (gen p : Nat) (l : List UInt8) (h : frameOf x gen p = some l) : framesOf (f + 1) x gen p = l :: framesOf f (x.drop (takes l.length * 64)) gen (p + 1) := by
  conv => lhs; unfold framesOf
  rw [h]
theorem framesOf_img (gen : Nat) : ∀ (L : List (List UInt8)) (p f : Nat) (r : List UInt8), L.length < f → (∀ l ∈ L, 1 ≤ l.length ∧ l.length ≤ 8192) → (64 ≤ r.length → r.take 13 ≠ leadB gen (p + L.length)) → framesOf f (framesB gen p L ++ r) gen p = L := by
  intro L
  induction L with
  | nil =>
    intro p f r hf hl hr
    obtain ⟨g, rfl⟩ : ∃ g, f = g + 1 := ⟨f - 1, by simp at hf; omega⟩
    exact framesOf_stop g _ gen p (frameOf_none r gen p hr)
  | cons l L ih =>
    intro p f r hf hl hr
    rw [List.length_cons] at hf
    obtain ⟨g, rfl⟩ : ∃ g, f = g + 1 := ⟨f - 1, by omega⟩
    have h1 := hl l (List.mem_cons_self ..)
    have e1 : framesB gen p (l :: L) ++ r = frameB gen p l ++ (framesB gen (p + 1) L ++ r) := List.append_assoc ..
    have e2 : (frameB gen p l ++ (framesB gen (p + 1) L ++ r)).drop (takes l.length * 64) = framesB gen (p + 1) L ++ r := by
      have h := List.drop_left (l₁ := frameB gen p l) (l₂ := framesB gen (p + 1) L ++ r)
      rw [frameB_len] at h; exact h
    have e3 : framesOf g (framesB gen (p + 1) L ++ r) gen (p + 1) = L := ih (p + 1) g r (by omega) (fun x hx => hl x (List.mem_cons_of_mem _ hx)) (by
      have e : p + 1 + L.length = p + (l :: L).length := by rw [List.length_cons]; omega
      rw [e]; exact hr)
    rw [e1, framesOf_go g _ gen p l (frameOf_frame gen p l _ h1.1 h1.2), e2, e3]
theorem lead_first (gen p : Nat) : (leadB gen p)[0]? = some 70 := by
  unfold leadB
  rw [patch_get _ _ _ (by rw [lead2_len, be_len]; omega), if_neg (by omega)]
  unfold lead2
  rw [patch_get _ _ _ (by rw [lead1_len, be_len]; omega), if_neg (by omega)]
  rfl
theorem noughts_lead (n gen p : Nat) : (noughts n).take 13 ≠ leadB gen p := fun h => by
  have h2 := congrArg (fun x : List UInt8 => x[0]?) h
  simp only [lead_first] at h2
  rw [List.getElem?_take, if_pos (by omega)] at h2
  unfold noughts at h2
  rw [List.getElem?_replicate] at h2
  split at h2
  · exact absurd h2 (by decide)
  · cases h2
section
variable [Inhabited BaseN]
/-! a slot -/
end
theorem slot_gen (g h : Nat) : ((slotB g h).drop 4).take 8 = be 8 g := by
  unfold slotB
  rw [patch_apart _ _ _ (by rw [slotHead_len, be_len]; omega) _ _ (.inl (by omega))]
  unfold slotHead
  rw [patch_apart _ _ _ (by rw [slot2_len]; simp) _ _ (.inl (by omega))]
  exact patch_at _ _ _ (by rw [slot1_len, be_len]; omega) 8 (be_len _ _)
theorem slot_half (g h : Nat) : (slotB g h)[12]? = some (UInt8.ofNat h) := by
  unfold slotB
  rw [patch_get _ _ _ (by rw [slotHead_len, be_len]; omega), if_neg (by omega)]
  unfold slotHead
  rw [patch_get _ _ _ (by rw [slot2_len]; simp), if_pos (by simp)]
  rfl
theorem slot_first (g h : Nat) : (slotB g h)[0]? = some 87 := by
  unfold slotB
  rw [patch_get _ _ _ (by rw [slotHead_len, be_len]; omega), if_neg (by omega)]
  unfold slotHead
  rw [patch_get _ _ _ (by rw [slot2_len]; simp), if_neg (by omega), patch_get _ _ _ (by rw [slot1_len, be_len]; omega), if_neg (by omega)]
  rfl
theorem slotOf_slot (g h : Nat) (hg : g < 18446744073709551616) (hh : h ≤ 1) : slotOf (slotB g h) (g % 2) = some (g, h) := by
  have h1 : beVal (((slotB g h).drop 4).take 8) = g := by
    rw [slot_gen, beVal_be]; exact Nat.mod_eq_of_lt (by simpa using hg)
  have h2 : ((slotB g h).getD 12 0).toNat = h := by
    rw [List.getD_eq_getElem?_getD, slot_half]
    show (UInt8.ofNat h).toNat = h
    rw [UInt8.toNat_ofNat']; omega
  unfold slotOf
  simp only [h1, h2]
  rw [if_pos ⟨hh, trivial, trivial⟩]
theorem slotOf_none0 (x : List UInt8) (i : Nat) (h : x[0]? ≠ some 87) : slotOf x i = none := by
  cases e : slotOf x i with
  | none => rfl
  | some q =>
    obtain ⟨g, hh⟩ := q
    have h2 := (slotOf_ok e).2.2.2
    rw [h2, slot_first] at h
    exact absurd rfl h
section
variable [Inhabited BaseN]
/-! writing -/
def updL (f : Nat → List UInt8) (s : Nat) (l : List (List UInt8)) : Nat → List UInt8 := fun i => if s ≤ i then (l[i - s]?).getD (f i) else f i
end
theorem updL_nil (f : Nat → List UInt8) (s : Nat) : updL f s [] = f := by
  funext i
  unfold updL
  split <;> simp
theorem updL_cons (f : Nat → List UInt8) (s : Nat) (x : List UInt8) (l : List (List UInt8)) : updL (upd f s x) (s + 1) l = updL f s (x :: l) := by
  funext i
  unfold updL upd
  by_cases h : i = s
  · subst h
    rw [if_neg (by omega), if_pos rfl, if_pos (Nat.le_refl _), Nat.sub_self]; rfl
  · by_cases h2 : s ≤ i
    · obtain ⟨j, hj⟩ : ∃ j, i - s = j + 1 := ⟨i - s - 1, by omega⟩
      rw [if_pos (by omega), if_pos h2, if_neg h, hj, show i - (s + 1) = j by omega]; rfl
    · rw [if_neg (by omega), if_neg h2, if_neg h]
theorem updL_in (f : Nat → List UInt8) (s : Nat) (l : List (List UInt8)) (k : Nat) (x : List UInt8) (h : l[k]? = some x) : updL f s l (s + k) = x := by
  unfold updL
  rw [if_pos (by omega), show s + k - s = k by omega, h]; rfl
theorem updL_out (f : Nat → List UInt8) (s : Nat) (l : List (List UInt8)) (i : Nat) (h : i < s ∨ s + l.length ≤ i) : updL f s l i = f i := by
  unfold updL
  split
  · rw [List.getElem?_eq_none (by omega)]; rfl
  · rfl
section
variable [Inhabited BaseN]
/-- some of what was to be written is there -/
def Mix (f g : Nat → List UInt8) (s : Nat) (l : List (List UInt8)) : Prop := ∀ i, g i = f i ∨ ∃ k, i = s + k ∧ l[k]? = some (g i)
end
theorem Mix.out {f g : Nat → List UInt8} {s : Nat} {l : List (List UInt8)} (h : Mix f g s l) (i : Nat) (hi : i < s ∨ s + l.length ≤ i) : g i = f i := by
  rcases h i with e | ⟨k, e, e2⟩
  · exact e
  · have := (List.getElem?_eq_some_iff.1 e2).1; omega
theorem Mix.len {f g : Nat → List UInt8} {s : Nat} {l : List (List UInt8)} (h : Mix f g s l) (hl : ∀ x ∈ l, x.length = 64) (i : Nat) (hi : (f i).length = 64) : (g i).length = 64 := by
  rcases h i with e | ⟨k, e, e2⟩
  · rw [e]; exact hi
  · exact hl _ (List.mem_of_getElem? e2)
theorem Mix.one {f g : Nat → List UInt8} {s : Nat} {x : List UInt8} (h : Mix f g s [x]) : g = f ∨ g = updL f s [x] := by
  rcases h s with e | ⟨k, e, e2⟩
  · left
    funext i
    by_cases hi : i = s
    · rw [hi]; exact e
    · exact h.out i (by simp; omega)
  · right
    have hk : k = 0 := by omega
    subst hk
    have e3 : x = g s := by injection e2
    funext i
    by_cases hi : i = s
    · rw [hi, ← e3]; exact (updL_in f s [x] 0 x rfl).symm
    · rw [h.out i (by simp; omega), updL_out f s [x] i (by simp; omega)]
section
variable [Inhabited BaseN]
structure Quiet (D : Dk) : Prop where
  on : D.on = true
  ord : D.order = []
  st : D.st = D.la
def Dk.dec (D : Dk) : Dk := if 0 < D.left then { D with left := D.left - 1 } else D
end
theorem Dk.fail_stop {D : Dk} (h : D.left = 0) : D.fail = (true, { D with on := false }) := by unfold Dk.fail; rw [if_pos h]
theorem Dk.fail_go {D : Dk} (h : D.left ≠ 0) : D.fail = (false, D.dec) := by
  unfold Dk.fail Dk.dec
  rw [if_neg h]
  split <;> rfl
theorem Dk.dec_same (D : Dk) : D.dec.n = D.n ∧ D.dec.st = D.st ∧ D.dec.la = D.la ∧ D.dec.order = D.order ∧ D.dec.on = D.on := by
  unfold Dk.dec
  split <;> exact ⟨rfl, rfl, rfl, rfl, rfl⟩
theorem Dk.dec_left (D : Dk) : D.dec.left = if 0 < D.left then D.left - 1 else D.left := by
  unfold Dk.dec
  split <;> rfl
theorem write_go {D : Dk} {s : Nat} {x : List UInt8} (hon : D.on = true) (hs : s < D.n) (hx : x.length = 64) (h : D.left ≠ 0) : D.write s x = (0, D.dec.put s x) := by
  unfold Dk.write
  rw [if_neg (by rw [hon]; decide), if_neg (by omega), Dk.fail_go h]
  rfl
theorem write_stop {D : Dk} {s : Nat} {x : List UInt8} (hon : D.on = true) (hs : s < D.n) (hx : x.length = 64) (h : D.left = 0) : D.write s x = (2, { D with on := false }) := by
  unfold Dk.write
  rw [if_neg (by rw [hon]; decide), if_neg (by omega), Dk.fail_stop h, if_pos rfl]
section
variable [Inhabited BaseN]
structure WrsPost (D : Dk) (s : Nat) (l : List (List UInt8)) (r : Int × Dk) : Prop where
  st : r.2.st = D.st
  n : r.2.n = D.n
  w : ∀ i, i ∉ r.2.order → r.2.la i = r.2.st i
  res : (r.1 = 0 ∧ r.2.on = true ∧ r.2.la = updL D.la s l ∧ (D.left < 0 ∧ r.2.left = D.left ∨ (l.length : Int) ≤ D.left ∧ r.2.left = D.left - l.length)) ∨
    (r.1 = 2 ∧ r.2.on = false ∧ 0 ≤ D.left ∧ D.left < l.length ∧ Mix D.la r.2.la s l)
end
theorem wrs_spec : ∀ (l : List (List UInt8)) (s : Nat) (D : Dk), D.on = true → s + l.length ≤ D.n → (∀ x ∈ l, x.length = 64) → (∀ i, i ∉ D.order → D.la i = D.st i) → WrsPost D s l (D.wrs s l) := by
  intro l
  induction l with
  | nil =>
    intro s D hon hn hl hw
    exact ⟨rfl, rfl, hw, .inl ⟨rfl, hon, (updL_nil _ _).symm, by show D.left < 0 ∧ D.left = D.left ∨ ((0 : Nat) : Int) ≤ D.left ∧ D.left = D.left - ((0 : Nat) : Int); omega⟩⟩
  | cons x l ih =>
    intro s D hon hn hl hw
    rw [List.length_cons] at hn
    have hx := hl x (List.mem_cons_self ..)
    by_cases h0 : D.left = 0
    · have e : D.wrs s (x :: l) = (2, { D with on := false }) := by
        show (if (D.write s x).1 = 0 then _ else _) = _
        rw [write_stop hon (by omega) hx h0]; rfl
      rw [e]
      exact ⟨rfl, rfl, hw, .inr ⟨rfl, rfl, by omega, by rw [h0, List.length_cons]; omega, fun i => .inl rfl⟩⟩
    · obtain ⟨d1, d2, d3, d4, d5⟩ := D.dec_same
      have e : D.wrs s (x :: l) = (D.dec.put s x).wrs (s + 1) l := by
        show (if (D.write s x).1 = 0 then _ else _) = _
        rw [write_go hon (by omega) hx h0]; rfl
      have p1 : (D.dec.put s x).st = D.st := d2
      have p2 : (D.dec.put s x).n = D.n := d1
      have p3 : (D.dec.put s x).on = D.on := d5
      have p4 : (D.dec.put s x).la = upd D.la s x := by show upd D.dec.la s x = _; rw [d3]
      have p5 : (D.dec.put s x).left = D.dec.left := rfl
      have p6 : (D.dec.put s x).order = if s ∈ D.order then D.order else D.order ++ [s] := by show (if s ∈ D.dec.order then D.dec.order else D.dec.order ++ [s]) = _; rw [d4]
      have h := ih (s + 1) (D.dec.put s x) (by rw [p3]; exact hon) (by rw [p2]; omega) (fun y hy => hl y (List.mem_cons_of_mem _ hy)) (fun i hi => by
        rw [p6] at hi
        rw [p4, p1]
        have hi2 : i ≠ s ∧ i ∉ D.order := by
          split at hi
          · rename_i hs; exact ⟨fun e => hi (e ▸ hs), hi⟩
          · exact ⟨fun e => hi (by rw [e]; simp), fun e => hi (by simp [e])⟩
        rw [upd_other _ _ _ _ hi2.1]; exact hw i hi2.2)
      rw [e]
      refine ⟨by rw [h.st, p1], by rw [h.n, p2], h.w, ?_⟩
      have hle := D.dec_left
      rcases h.res with ⟨r1, r2, r3, r4⟩ | ⟨r1, r2, r3, r4, r5⟩
      · left
        refine ⟨r1, r2, by rw [r3, p4, updL_cons], ?_⟩
        rw [p5, hle] at r4
        rw [List.length_cons]
        split at r4 <;> omega
      · right
        rw [p5, hle] at r3 r4
        refine ⟨r1, r2, ?_, ?_, fun i => ?_⟩
        · split at r3 <;> omega
        · rw [List.length_cons]
          split at r4 <;> omega
        · rcases r5 i with e1 | ⟨k, e1, e2⟩
          · rw [p4] at e1
            by_cases hi : i = s
            · right
              exact ⟨0, by omega, by rw [e1, hi, upd_same]; rfl⟩
            · left
              rw [e1, upd_other _ _ _ _ hi]
          · right
            exact ⟨k + 1, by omega, e2⟩
section
variable [Inhabited BaseN]
/-- behind sectors that were written, and flushed -/
def WritesPost (D : Dk) (s : Nat) (l : List (List UInt8)) (r : Int × Dk) : Prop :=
  (r.1 = 0 ∧ Quiet r.2 ∧ r.2.la = updL D.la s l ∧ (D.left < 0 ∧ r.2.left = D.left ∨ (l.length : Int) < D.left ∧ r.2.left = D.left - l.length - 1)) ∨
  (r.1 = 2 ∧ r.2.on = false ∧ 0 ≤ D.left ∧ D.left ≤ l.length ∧ ∀ kept, Quiet (r.2.crash kept) ∧ (r.2.crash kept).left = -1 ∧ Mix D.la (r.2.crash kept).la s l)
end
theorem crash_quiet (D : Dk) (kept : List Bool) : Quiet (D.crash kept) := ⟨rfl, rfl, rfl⟩
theorem crash_mix {D D' : Dk} {s : Nat} {l : List (List UInt8)} (hq : D.st = D.la) (h1 : D'.st = D.st) (h2 : Mix D.la D'.la s l) (kept : List Bool) : Mix D.la (D'.crash kept).la s l := fun i => by
  show D'.settled (fun k => kept.getD k false) i = _ ∨ ∃ k, i = s + k ∧ l[k]? = some (D'.settled (fun k => kept.getD k false) i)
  unfold Dk.settled
  split
  · exact h2 i
  · rw [h1, hq]; exact .inl rfl
theorem Mix.upd {f : Nat → List UInt8} {s : Nat} {l : List (List UInt8)} : Mix f (updL f s l) s l := fun i => by
  by_cases h : s ≤ i
  · cases e : l[i - s]? with
    | none => left; unfold updL; rw [if_pos h, e]; rfl
    | some x => right; exact ⟨i - s, by omega, by unfold updL; rw [if_pos h, e]; rfl⟩
  · left; unfold updL; rw [if_neg h]
theorem writes_spec (D : Dk) (s : Nat) (l : List (List UInt8)) (hq : Quiet D) (hn : s + l.length ≤ D.n) (hl : ∀ x ∈ l, x.length = 64) : WritesPost D s l (D.writes s l) := by
  have h := wrs_spec l s D hq.on hn hl (fun i _ => by rw [hq.st])
  obtain ⟨r, hr⟩ : ∃ r, D.wrs s l = r := ⟨_, rfl⟩
  have hw : D.writes s l = if r.1 = 0 then r.2.flush else r := by unfold Dk.writes; rw [hr]
  rw [hr] at h
  rw [hw]
  obtain ⟨re, rD⟩ := r
  rcases h.res with ⟨r1, r2, r3, r4⟩ | ⟨r1, r2, r3, r4, r5⟩
  · simp only at r1 r2 r3 r4
    rw [if_pos r1]
    have h1 := h.st
    have h2 := h.w
    simp only at h1 h2
    show WritesPost D s l rD.flush
    unfold Dk.flush
    rw [if_neg (by rw [r2]; decide)]
    by_cases h0 : rD.left = 0
    · rw [Dk.fail_stop h0, if_pos rfl]
      right
      refine ⟨rfl, rfl, by omega, by omega, fun kept => ⟨crash_quiet _ _, rfl, crash_mix hq.st (D' := { rD with on := false }) h1 (by show Mix D.la rD.la s l; rw [r3]; exact Mix.upd) kept⟩⟩
    · rw [Dk.fail_go h0]
      show WritesPost D s l (0, rD.dec.settle fun _ => true)
      obtain ⟨d1, d2, d3, d4, d5⟩ := rD.dec_same
      have hla : (rD.dec.settle fun _ => true).la = updL D.la s l := by
        funext i
        show rD.dec.settled (fun _ => true) i = _
        unfold Dk.settled
        rw [d2, d3, d4, ← r3]
        split
        · rfl
        · rename_i hi
          exact (h2 i (fun hc => hi ⟨hc, rfl⟩)).symm
      left
      refine ⟨rfl, ⟨d5.trans r2, rfl, rfl⟩, hla, ?_⟩
      show _ ∧ rD.dec.left = _ ∨ _ ∧ rD.dec.left = _
      rw [rD.dec_left]
      split <;> omega
  · simp only at r1 r2 r3 r4 r5
    rw [if_neg (by show ¬ re = 0; rw [r1]; decide)]
    right
    exact ⟨r1, r2, r3, by omega, fun kept => ⟨crash_quiet _ _, rfl, crash_mix hq.st h.st r5 kept⟩⟩
end Go.Proofs.YtdannodhlaaoiaaGreatDoor
