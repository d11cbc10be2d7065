/- Entries in memory; readFrames. -/
import Derived.Test.YtcmpbablmofofaaJN
set_option linter.unusedVariables false
set_option linter.unusedSimpArgs false
namespace Go.Proofs.Ytcmpbablmofofaa
open Go.RowKit
section
variable [Inhabited BaseN]

def vv (v : Value) : List Value := [v]
end
theorem vv_len (v : Value) : (vv v).length = 1 := rfl
section
variable [Inhabited BaseN]
/-- entries of the call's own -/
def OwnE (w0 w : World) (ev : Value) (L : List (List UInt8)) : Prop := ∃ vs : List Value, vs.length = L.length ∧ OwnR 27 1 vv w0 w ev vs ∧ ∀ (i : Nat) (v : Value) (l : List UInt8), vs[i]? = some v → L[i]? = some l → OwnB w0 w v l
end
theorem OwnE.nil (w0 w : World) (h : w0.heap.size ≤ w.heap.size) : OwnE w0 w (.slice none 0 0) [] := ⟨[], rfl, OwnR.nil _ _ h, fun i v l h => by simp at h⟩
theorem OwnE.slice {w0 w : World} {ev : Value} {L : List (List UInt8)} (h : OwnE w0 w ev L) : ∃ p c, ev = .slice p L.length c := by
  obtain ⟨vs, h1, h2, -⟩ := h
  obtain ⟨p, c, e⟩ := h2.slice
  exact ⟨p, c, by rw [← h1]; exact e⟩
theorem OwnE.older {w0 w1 w : World} {ev : Value} {L : List (List UInt8)} (h : OwnE w1 w ev L) (hs : w0.heap.size ≤ w1.heap.size) : OwnE w0 w ev L := by
  obtain ⟨vs, h1, h2, h3⟩ := h
  exact ⟨vs, h1, h2.older hs, fun i v l a b => (h3 i v l a b).older hs⟩
theorem OwnB.ty {w0 w : World} {v : Value} {x : List UInt8} (h : OwnB w0 w v x) {k : Nat} (e : v.ownBlock = some k) : ∃ cs r, w.heap[k]? = some (.cells cs 5 r) := by
  rcases h.1.2 with ⟨e1, -⟩ | ⟨g, cap, cur, e1, -, hg, -⟩
  · rw [e1] at e; simp [Value.ownBlock] at e
  · rw [e1] at e
    simp only [Value.ownBlock, Option.some.injEq] at e
    subst e
    exact ⟨_, _, hg⟩
theorem OwnR.ty {α : Type} {t sz : Nat} {cv : α → List Value} {w0 w : World} {v : Value} {xs : List α} (h : OwnR t sz cv w0 w v xs) {k : Nat} (e : v.ownBlock = some k) : ∃ cs r, w.heap[k]? = some (.cells cs t r) := by
  rcases h.1.2 with ⟨e1, -⟩ | ⟨g, cap, cur, e1, -, hg, -⟩
  · rw [e1] at e; simp [Value.ownBlock] at e
  · rw [e1] at e
    simp only [Value.ownBlock, Option.some.injEq] at e
    subst e
    exact ⟨_, _, hg⟩
/-- what turns only blocks of other types than entries' -/
theorem OwnE.keepF {F : Nat → Prop} {w0 w w' : World} {ev : Value} {L : List (List UInt8)} (h : OwnE w0 w ev L) (k : Keeps F w w') (hF : ∀ i, F i → ¬ ∃ cs t r, w.heap[i]? = some (.cells cs t r) ∧ (t = 27 ∨ t = 5)) : OwnE w0 w' ev L := by
  obtain ⟨vs, h1, h2, h3⟩ := h
  refine ⟨vs, h1, h2.keep k (fun i e f => ?_), fun i v l a b => (h3 i v l a b).keep k (fun j e f => ?_)⟩
  · obtain ⟨cs, r, h4⟩ := h2.ty e
    exact hF i f ⟨cs, _, r, h4, .inl rfl⟩
  · obtain ⟨cs, r, h4⟩ := (h3 i v l a b).ty e
    exact hF j f ⟨cs, _, r, h4, .inr rfl⟩
theorem OwnE.keep {w0 w w' : World} {ev : Value} {L : List (List UInt8)} (h : OwnE w0 w ev L) (k : Keeps (fun _ => False) w w') : OwnE w0 w' ev L := h.keepF k (fun i f => f.elim)
section
variable [Inhabited BaseN]
theorem OwnE.keepD {w0 w w' : World} {ev : Value} {L : List (List UInt8)} (h : OwnE w0 w ev L) (k : KeepD w w') : OwnE w0 w' ev L := h.keepF k (fun i ⟨_, cs, t, r, a, b⟩ ⟨cs2, t2, r2, c, d⟩ => by
  rw [a] at c
  injection c with c
  injection c with _ c _
  subst c
  revert b d
  rintro (rfl | rfl | rfl) (d | d) <;> revert d <;> decide)
end
/-- one more -/
theorem OwnE.snoc {w0 w w' : World} {ev : Value} {L : List (List UInt8)} {p : Option Addr} {n c : Nat} {v : Value} {l : List UInt8} {vs : List Value} (h1 : vs.length = L.length) (h2 : OwnR 27 1 vv w0 w ev vs) (h3 : ∀ (i : Nat) (v : Value) (l : List UInt8), vs[i]? = some v → L[i]? = some l → OwnB w0 w v l) (hv : OwnB w0 w v l)
    (ho : OwnR 27 1 vv w0 w' (.slice p n c) (vs ++ [v])) (g : Grown w ev p n c w') : OwnE w0 w' (.slice p n c) (L ++ [l]) := by
  have hk : ∀ {u : Value} {x : List UInt8}, OwnB w0 w u x → OwnB w0 w' u x := fun hu => hu.keep g.k (fun i e e2 => by
    obtain ⟨cs, r, a⟩ := hu.ty e
    obtain ⟨cs2, r2, b⟩ := h2.ty e2
    rw [a] at b
    injection b with b
    injection b with _ b _
    revert b; decide)
  refine ⟨vs ++ [v], by simp [h1], ho, fun i u x hu hx => ?_⟩
  by_cases hi : i < vs.length
  · rw [List.getElem?_append_left hi] at hu
    rw [List.getElem?_append_left (by omega)] at hx
    exact hk (h3 i u x hu hx)
  · rw [List.getElem?_append_right (by omega)] at hu hx
    have hi2 : i - vs.length = 0 := by have := (List.getElem?_eq_some_iff.1 hu).1; simp at this; omega
    rw [hi2] at hu
    rw [← h1, hi2] at hx
    injection hu with hu; injection hx with hx
    subst hu; subst hx
    exact hk hv
theorem bytesAll : ∃ i, Try.prog.info? 27 = some i ∧ i.zero = some (.slice none 0 0) ∧ i.size = 1 ∧ i.bytes = 24 := by
  have h : (Try.prog.info? 27).map (fun i => (i.zero, i.size, i.bytes)) = some (some (.slice none 0 0), 1, 24) := by kernel_rfl
  obtain ⟨i, hi, e⟩ := Option.map_eq_some_iff.1 h
  injection e with e1 e; injection e with e2 e3
  exact ⟨i, hi, e1, e2, e3⟩
theorem vv_one {p : Option Addr} {n c : Nat} : ∀ u ∈ vv (.slice p n c), u.oneCell' = true := by intro u hu; simp [vv] at hu; subst hu; rfl
section
variable [Inhabited BaseN]
/-- the entries of a half's bytes -/
def framesOf : Nat → List UInt8 → Nat → Nat → List (List UInt8)
  | 0, _, _, _ => []
  | f + 1, x, gen, place => match frameOf x gen place with
    | none => []
    | some l => l :: framesOf f (x.drop (takes l.length * 64)) gen (place + 1)
end
theorem frameOf_len {x : List UInt8} {gen place : Nat} {l : List UInt8} (h : frameOf x gen place = some l) : takes l.length * 64 ≤ x.length ∧ 1 ≤ l.length ∧ l.length ≤ 8192 ∧ 64 ≤ x.length := by
  unfold frameOf at h
  simp only at h
  split at h
  · cases h
  · rename_i hb
    split at h
    · injection h with h
      have h1 : l.length = beVal ((x.drop 13).take 2) := by
        rw [← h, List.length_take, List.length_drop]
        have := takes_ge (beVal ((x.drop 13).take 2))
        omega
      rw [h1]; omega
    · cases h
theorem readFrame_b (p : Option Addr) (c : Nat) (x : List UInt8) (gen place : Nat) (hg : gen < 18446744073709551616) (hp : place < 4294967296) (w : World) (hr : BytesAt w (.slice p x.length c) x) (hx : x.length ≤ 1000000) (hcm : c ≤ 9223372036854775807) :
    Calls Try.prog 72 #[.slice p x.length c, .int .u64 gen, .int .i64 place] w (ReadF (frameOf x gen place) w) := by
  by_cases h64 : x.length < 64
  · have e : frameOf x gen place = none := by unfold frameOf; rw [if_pos (.inl h64)]
    rw [e]; exact readFrame_short _ _ _ h64 _ _ _
  · obtain ⟨g, o, rfl, hc, h2⟩ := hr.open (by omega)
    exact readFrame_any g o c x gen place hg hp w h2 hx hc hcm
end Go.Proofs.Ytcmpbablmofofaa
