/- What bytes tell, as the document's Get has it, is what lsa.Get tells. -/
import Derived.Test.YtiogeepffdpafaaLAJ
namespace Go.Proofs.Ytiogeepffdpafaa
open Go.RowKit

/-- what the document's Get hears behind the header -/
def docHear (h : HeadD) (x : List UInt8) : LsaD :=
  if h.type = 1 then ⟨h.age, h.type, h.id, h.adv, h.seq, readL (x.drop 4) ((x.length - 4) / 12), 0, [], 0⟩
  else if h.type = 2 then ⟨h.age, h.type, h.id, h.adv, h.seq, [], beVal (sub x 0 4), readN (x.drop 4) ((x.length - 4) / 4), 0⟩
  else if h.type = 3 then ⟨h.age, h.type, h.id, h.adv, h.seq, [], beVal (sub x 0 4), [], (beVal (sub x 4 4) : Nat)⟩
  else ⟨h.age, h.type, h.id, h.adv, h.seq, [], 0, [], 0⟩
/-- is it too short? -/
def shortX (h : HeadD) (x : List UInt8) : Prop := (h.type = 1 ∧ x.length < 4) ∨ (h.type = 2 ∧ x.length < 4) ∨ (h.type = 3 ∧ x.length < 8)
theorem docHear_type (h : HeadD) (x : List UInt8) : (docHear h x).type = h.type := by
  unfold docHear; split
  · rfl
  · split
    · rfl
    · split <;> rfl
theorem hearH_type (h : HeadD) (x : List UInt8) : (hearH h x).type = h.type := by
  unfold hearH hearD; split
  · rfl
  · split
    · rfl
    · split
      · rfl
      · split <;> rfl
theorem docHear_hear (h : HeadD) (x : List UInt8) (h4 : h.type = 1 ∨ h.type = 2 → 4 ≤ x.length) (h8 : h.type = 3 → x.length = 8) : docHear h x = hearH h x := by
  unfold docHear hearH hearD
  by_cases t1 : h.type = 1
  · have := h4 (.inl t1)
    rw [if_pos t1, if_neg (by omega), if_pos t1]
  · by_cases t2 : h.type = 2
    · have := h4 (.inr t2)
      rw [if_neg t1, if_pos t2, if_neg (by omega), if_neg t1, if_pos t2]
    · by_cases t3 : h.type = 3
      · have hx := h8 t3
        have hs : sub x 4 4 = x.drop 4 := by unfold sub; rw [List.take_of_length_le (by rw [List.length_drop]; omega)]
        have hb : beVal (x.drop 4) < 4294967296 := by
          have := beVal_lt (x.drop 4)
          have e : (x.drop 4).length = 4 := by rw [List.length_drop]; omega
          rw [e] at this
          exact this
        rw [if_neg t1, if_neg t2, if_pos t3, if_neg (by omega), if_neg t1, if_neg t2, if_pos t3, hs, Nat.mod_eq_of_lt hb]
      · rw [if_neg t1, if_neg t2, if_neg t3]
        by_cases hx : x.length < 4
        · rw [if_pos hx]
        · rw [if_neg hx, if_neg t1, if_neg t2, if_neg t3]
theorem tell3 (l : LsaD) (h : l.type = 3) : (tellB l).length = 8 := by
  unfold tellB
  rw [if_neg (by omega), if_neg (by omega), List.length_append, be_len, be_len]
/-- the last word of the two -/
def lastL (r : LsaD) (x : List UInt8) : LsaD × Int := if canB r = true ∧ putB r = x then (r, 0) else (zeroL, 3)
theorem getL_short (x : List UInt8) (hx : ¬ x.length < 20) (hs : ¬ (rightF (x.drop 2) = false ∨ x.getD 16 0 = 255 ∨ x.getD 17 0 = 255)) (h : shortX (headOf x) (x.drop 20)) : getL x = (zeroL, 3) := by
  unfold getL
  rw [if_neg hx, if_neg hs]
  by_cases hl : (headOf x).len ≠ (x.length : Int)
  · rw [if_pos hl]
  · rw [if_neg hl, if_neg]
    rintro ⟨hc, hp⟩
    have h1 := canB_lens hc
    have h2 := tellB_len h1.1 h1.2
    have h3 := putB_len (hearH (headOf x) (x.drop 20))
    rw [hp] at h3
    have h4 : (x.drop 20).length = x.length - 20 := List.length_drop
    rcases h with ⟨_, h5⟩ | ⟨_, h5⟩ | ⟨t, h5⟩
    · omega
    · omega
    · have := tell3 (hearH (headOf x) (x.drop 20)) (by rw [hearH_type]; exact t)
      omega
theorem getL_long (x : List UInt8) (hx : ¬ x.length < 20) (hs : ¬ (rightF (x.drop 2) = false ∨ x.getD 16 0 = 255 ∨ x.getD 17 0 = 255)) (h : ¬ shortX (headOf x) (x.drop 20)) : getL x = lastL (docHear (headOf x) (x.drop 20)) x := by
  have hb : (x.drop 20).length = x.length - 20 := List.length_drop
  have h4 : (headOf x).type = 1 ∨ (headOf x).type = 2 → 4 ≤ (x.drop 20).length := by
    intro t
    by_cases h5 : (x.drop 20).length < 4
    · exact absurd (t.elim (fun t => .inl ⟨t, h5⟩) (fun t => .inr (.inl ⟨t, h5⟩))) h
    · omega
  unfold getL
  rw [if_neg hx, if_neg hs]
  by_cases hq : canB (docHear (headOf x) (x.drop 20)) = true ∧ putB (docHear (headOf x) (x.drop 20)) = x
  · have h1 := canB_lens hq.1
    have h3 := putB_len (docHear (headOf x) (x.drop 20))
    rw [hq.2] at h3
    have h8 : (headOf x).type = 3 → (x.drop 20).length = 8 := by
      intro t
      have := tell3 (docHear (headOf x) (x.drop 20)) (by rw [docHear_type]; exact t)
      omega
    have hlen : (headOf x).len = (x.length : Int) := by
      have e := headOf_put (docHear (headOf x) (x.drop 20))
      have e2 := head_len (docHear (headOf x) (x.drop 20)) h1.1 h1.2 ((lo64 (docHear (headOf x) (x.drop 20)).age % 65536 : Nat) : Int)
      rw [hq.2] at e
      rw [← e] at e2
      rw [e2]; omega
    have hsame := docHear_hear (headOf x) (x.drop 20) h4 h8
    unfold lastL
    rw [if_neg (by rw [hlen]; exact fun e => e rfl), if_pos hq, ← hsame, if_pos hq]
  · unfold lastL
    rw [if_neg hq]
    by_cases hl : (headOf x).len ≠ (x.length : Int)
    · rw [if_pos hl]
    · rw [if_neg hl, if_neg]
      intro hq2
      have h3 := putB_len (hearH (headOf x) (x.drop 20))
      rw [hq2.2] at h3
      have h8 : (headOf x).type = 3 → (x.drop 20).length = 8 := by
        intro t
        have := tell3 (hearH (headOf x) (x.drop 20)) (by rw [hearH_type]; exact t)
        omega
      rw [← docHear_hear (headOf x) (x.drop 20) h4 h8] at hq2
      exact hq hq2
end Go.Proofs.Ytiogeepffdpafaa
