/- Stable's answers; elects, walked. -/
import Derived.Test.YtdjbgjcniacgdaaELI
namespace Go.Proofs.Ytdjbgjcniacgdaa
open Go.RowKit

def stOut (ls : List VotD) : Nat × Nat × Nat := match stableFrom 16 1 ls with
  | (f :: _, P) => (f.dr, f.bdr, P)
  | ([], P) => (0, 0, P)
theorem stableFrom_len : ∀ (m p : Nat) (ls : List VotD), (stableFrom m p ls).1.length = ls.length
  | 0, _, _ => rfl
  | m + 1, p, ls => by
    unfold stableFrom
    have h := passFrom_len ls.length 0 false ls
    rcases hR : passFrom ls.length 0 false ls with ⟨z, l'⟩
    rw [hR] at h
    have h2 : l'.length = ls.length := h
    show (if z && decide (p < 16) then stableFrom m (p + 1) l' else (l', p)).1.length = _
    split
    · rw [stableFrom_len, h2]
    · exact h2
theorem elStable_out (sl : Value) (ls : List VotD) (x y P n : Nat) (hn : Hid (ls.length = n)) (h0 : 0 < n) (hl : n ≤ 1000000) (w : World) (h : Hid (VotersAt w sl ls)) (hz : Hid (stOut ls = (x, y, P))) :
    Calls Try.prog 4 #[sl] w (fun e w' => e = .returned (.tuple #[.int .u32 x, .int .u32 y, .int .i64 P]) ∧ Keeps (fun _ => False) w w') := by
  have hlen := stableFrom_len 16 1 ls
  have hz2 := hz.out
  unfold stOut at hz2
  rcases hs : stableFrom 16 1 ls with ⟨l', Q⟩
  rw [hs] at hz2 hlen
  cases l' with
  | nil => have h1 := hn.out; have h2 : 0 = ls.length := hlen; omega
  | cons f r =>
    simp only [Prod.mk.injEq] at hz2
    obtain ⟨rfl, rfl, rfl⟩ := hz2
    exact elStable_any sl ls (f :: r) f r Q n hn h0 hl w h (Lib.hid hs) (Lib.hid rfl)
/-- voters in a block that is new -/
theorem VotersAt.new {w : World} {n : Nat} (ls : List VotD) (hn : ls.length = n) : VotersAt (w.alloc (.cells (voteCells ls).toArray 26)) (.slice (some ⟨w.heap.size, 0, none⟩) n n) ls := by
  subst hn
  refine ⟨_, _, rfl, (fun e => nomatch e), Nat.le_refl _, fun h0 => ⟨w.heap.size, 0, rfl, fun i l hl j u hu => ?_⟩⟩
  have hj : j < 5 := by have := (List.getElem?_eq_some_iff.1 hu).1; simpa [voteVals] using this
  have := new_rangeb w (voteCells ls) 26 (i * 5 + j) u (by rw [voteCells_get ls i l hl j hj]; exact hu)
  rwa [show 0 + (i * 5 + j) = 0 + i * 5 + j by omega] at this
def E0 : List VotD := [⟨1, 11, 1, 0, 0⟩, ⟨2, 12, 1, 0, 0⟩]
set_option maxRecDepth 100000 in
theorem elElects_any (w : World) : Calls Try.prog 5 #[] w (fun e w' => e = .returned (.bool true) ∧ Keeps (fun _ => False) w w') := by
  have hE : Hid (stOut E0 = ((stOut E0).1, (stOut E0).2.1, (stOut E0).2.2)) := Lib.hid rfl
  have hx : (stOut E0).1 = 12 := by decide
  have hp : 0 < (stOut E0).2.2 := by decide
  obtain ⟨Y, hY⟩ : ∃ Y, (stOut E0).2.1 = Y := ⟨_, rfl⟩
  obtain ⟨Q, hQ⟩ : ∃ Q, (stOut E0).2.2 = Q := ⟨_, rfl⟩
  rw [hx, hY, hQ] at hE
  rw [hQ] at hp
  clear hx hY hQ
  have hV : Hid (VotersAt (w.alloc (.cells #[.int .u32 1, .int .u32 11, .int .i64 1, .int .u32 0, .int .u32 0, .int .u32 2, .int .u32 12, .int .i64 1, .int .u32 0, .int .u32 0] 26)) (.slice (some ⟨w.heap.size, 0, none⟩) 2 2) E0) := Lib.hid (VotersAt.new E0 rfl)
  have hk : Hid (Keeps (fun _ => False) w (w.alloc (.cells #[.int .u32 1, .int .u32 11, .int .i64 1, .int .u32 0, .int .u32 0, .int .u32 2, .int .u32 12, .int .i64 1, .int .u32 0, .int .u32 0] 26))) := Lib.hid ((Keeps.refl _ _).alloc _)
  go_enter Try.func5, Try.ntmps5
  go_wp2_with fail
  refine (elStable_out _ E0 12 Y Q 2 (Lib.hid rfl) (by omega) (by omega) _ hV hE).mono ?_
  rintro e w2 ⟨rfl, k2⟩
  have k2' := Lib.hid (hk.out.trans k2)
  have hp' : (Q : Int) > 0 := by omega
  clear k2 hk hV hE
  go_wp2_with fail
  go_ret
  exact ⟨rfl, k2'.out⟩
end Go.Proofs.Ytdjbgjcniacgdaa
