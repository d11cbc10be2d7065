/- Compact, Begin, all of Append and Open: plain. -/
import Derived.Test.YtcmpbablmofofaaKE
set_option linter.unusedVariables false
set_option linter.unusedSimpArgs false
namespace Go.Proofs.Ytcmpbablmofofaa
open Go.RowKit
section
variable [Inhabited BaseN]

end
theorem imgB_len (gen H : Nat) (L : List (List UInt8)) (hu : usedOf L ≤ H) : (imgB gen H L).length = H * 64 := by
  unfold imgB
  rw [List.length_append, framesB_len, noughts_len]; omega
theorem half_other {half : Nat} (hh : half ≤ 1) : 1 - half ≤ 1 ∧ (half = 0 ∧ 1 - half = 1 ∨ half = 1 ∧ 1 - half = 0) := by omega
/-- the other half lies apart -/
theorem half_apart {half H k i : Nat} (hh : half ≤ 1) (hk : k < H) : (2 + half * H + k < 2 + (1 - half) * H ∨ 2 + (1 - half) * H + H ≤ 2 + half * H + k) := by
  rcases (half_other hh).2 with ⟨a, b⟩ | ⟨a, b⟩
  · rw [b, a]; omega
  · rw [b, a]; omega
theorem mv_spec (D : Dk) (gen half : Nat) (L0 L : List (List UInt8)) (hq : Quiet D) (h : JD D.la D.n gen half L0) (hl : ∀ l ∈ L, 1 ≤ l.length ∧ l.length ≤ 8192) (hu : usedOf L ≤ hz D.n) (hg : gen + 1 < 18446744073709551616) :
    StepPost D gen half L0 (gen + 1) (1 - half) L (mvR D (gen + 1) (1 - half) L) ∧
    (0 ≤ D.left → D.left ≤ hz D.n → (mvR D (gen + 1) (1 - half) L).1 = 2 ∧ ∀ kept, JD ((mvR D (gen + 1) (1 - half) L).2.crash kept).la D.n gen half L0) := by
  have hn4 := h.n4
  have hh := h.hlf
  have hh2 : 1 - half ≤ 1 := by omega
  obtain ⟨B, hBe⟩ : ∃ B, imgB (gen + 1) (hz D.n) L = B := ⟨_, rfl⟩
  have hBl : B.length = hz D.n * 64 := by rw [← hBe]; exact imgB_len _ _ _ hu
  obtain ⟨S, hS⟩ : ∃ S, 2 + (1 - half) * hz D.n = S := ⟨_, rfl⟩
  have hin : ∀ k, k < hz D.n → S + k < D.n := fun k hk => by rw [← hS]; exact hz_in hn4 hh2 hk
  have hH1 : 1 ≤ hz D.n := by unfold hz; omega
  have hSn : S + hz D.n ≤ D.n := by have := hin (hz D.n - 1) (by omega); omega
  have s1 := secsOf_64 B (hz D.n) hBl
  have s2 : ∀ y ∈ secsOf (slotB (gen + 1) (1 - half)) 1, y.length = 64 := secsOf_64 _ 1 (slotB_len _ _)
  have hx0 : secsOf (slotB (gen + 1) (1 - half)) 1 = [slotB (gen + 1) (1 - half)] := by
    show [((slotB (gen + 1) (1 - half)).drop (0 * 64)).take 64] = _
    rw [Nat.zero_mul, List.drop_zero, List.take_of_length_le (by rw [slotB_len]; omega)]
  have hm : (gen + 1) % 2 = 1 - gen % 2 := by omega
  have hold : ∀ la, Mix D.la la S (secsOf B (hz D.n)) → JD la D.n gen half L0 := fun la hmx =>
    h.of (fun i hi => hmx.len s1 i (h.len i hi)) (fun i hi => hmx.out i (.inl (by omega))) (fun k hk hk2 => by
      apply hmx.out
      rw [secsOf_len, ← hS]
      exact half_apart (i := 0) hh hk2)
  have hnew : ∀ la, la = updL (updL D.la S (secsOf B (hz D.n))) ((gen + 1) % 2) [slotB (gen + 1) (1 - half)] → JD la D.n (gen + 1) (1 - half) L := by
    intro la hla
    have hlt : (gen + 1) % 2 < 2 := Nat.mod_lt _ (by omega)
    have hS2 : 2 ≤ S := by omega
    have hslot : la ((gen + 1) % 2) = slotB (gen + 1) (1 - half) := by
      rw [hla]
      exact updL_in _ ((gen + 1) % 2) _ 0 _ rfl
    have hoth : la (1 - (gen + 1) % 2) = slotB gen half := by
      rw [hla, updL_out _ _ _ _ (by simp; omega), updL_out _ _ _ _ (.inl (by omega)), show 1 - (gen + 1) % 2 = gen % 2 by omega]
      exact h.slot
    have hsec : ∀ k, la (S + k) = updL D.la S (secsOf B (hz D.n)) (S + k) := fun k => by
      rw [hla, updL_out _ _ _ _ (by simp; omega)]
    have hlenH : ∀ i, i < hz D.n → (D.la (S + i)).length = 64 := fun i hi => h.len _ (hin i hi)
    have himg : hB (updL D.la S (secsOf B (hz D.n))) S (hz D.n) = B := by
      have h1 := hB_upd D.la S (hz D.n) 0 (hz D.n) B hlenH hBl (by omega)
      rw [Nat.add_zero] at h1
      rw [h1]
      unfold patch
      have h2 := hB_len D.la S (hz D.n) hlenH
      simp [List.drop_of_length_le (show (hB D.la S (hz D.n)).length ≤ B.length by omega)]
    have hll : ∀ i, i < D.n → (la i).length = 64 := fun i hi => by
      rw [hla]
      exact updL_len _ _ _ (fun x hx => by rw [List.mem_singleton.1 hx]; exact slotB_len _ _) _ (updL_len _ _ _ s1 _ (h.len i hi))
    refine ⟨hn4, hh2, hg, hll, hslot, fun g h2 e => ?_, hu, hl, ?_, fun hlt2 => ?_⟩
    · rw [hoth, show 1 - (gen + 1) % 2 = gen % 2 by omega, slotOf_slot gen half h.gn hh] at e
      injection e with e
      injection e with e
      omega
    · rw [hS]
      have h1 := hB_take (updL D.la S (secsOf B (hz D.n))) la S (hz D.n) (usedOf L) (fun i hi => updL_len _ _ _ s1 _ (hlenH i hi)) (fun i hi => hll _ (hin i hi)) hu (fun i _ => hsec i)
      rw [h1, himg, ← hBe]
      unfold imgB
      have h2 := List.take_left (l₁ := framesB (gen + 1) 0 L) (l₂ := noughts (hz D.n * 64 - usedOf L * 64))
      rw [framesB_len] at h2; exact h2
    · rw [hS, hsec, updL_in _ _ _ (usedOf L) _ (secsOf_get B _ _ hlt2), ← hBe]
      unfold imgB
      have h2 := List.drop_left (l₁ := framesB (gen + 1) 0 L) (l₂ := noughts (hz D.n * 64 - usedOf L * 64))
      rw [framesB_len] at h2
      rw [h2, List.take_take]
      have e3 : (noughts (hz D.n * 64 - usedOf L * 64)).take (min 13 64) = (noughts (hz D.n * 64 - usedOf L * 64)).take 13 := by congr 1
      rw [e3]
      exact noughts_lead _ _ _
  have hmv : mvR D (gen + 1) (1 - half) L = (let p := D.writes S (secsOf B (hz D.n)); if p.1 ≠ 0 then p else p.2.writes ((gen + 1) % 2) (secsOf (slotB (gen + 1) (1 - half)) 1)) := by
    unfold mvR
    have e1 : hsz D = hz D.n := rfl
    rw [e1, hS, hBe]
  have hw := writes_spec D S (secsOf B (hz D.n)) hq (by rw [secsOf_len]; exact hSn) s1
  have hwn := (D.writes_same S (secsOf B (hz D.n))).2.2
  obtain ⟨P, hP⟩ : ∃ P, D.writes S (secsOf B (hz D.n)) = P := ⟨_, rfl⟩
  rw [hP] at hw hwn hmv
  rw [hmv]
  simp only
  unfold WritesPost at hw
  rw [secsOf_len] at hw
  rcases hw with ⟨w1, w2, w3, w4⟩ | ⟨w1, w2, w3, w4, w5⟩
  · rw [if_neg (by rw [w1]; decide)]
    refine ⟨?_, fun l1 l2 => by omega⟩
    have hw2 := writes_spec P.2 ((gen + 1) % 2) (secsOf (slotB (gen + 1) (1 - half)) 1) w2 (by rw [hwn, secsOf_len]; omega) s2
    have hwn2 := (P.2.writes_same ((gen + 1) % 2) (secsOf (slotB (gen + 1) (1 - half)) 1)).2.2
    obtain ⟨Q, hQ⟩ : ∃ Q, P.2.writes ((gen + 1) % 2) (secsOf (slotB (gen + 1) (1 - half)) 1) = Q := ⟨_, rfl⟩
    rw [hQ] at hw2 hwn2 ⊢
    rw [hx0] at hw2
    rcases hw2 with ⟨v1, v2, v3, v4⟩ | ⟨v1, v2, v3, v4, v5⟩
    · left
      exact ⟨v1, v2, by rw [hwn2, hwn], hnew _ (by rw [v3, w3]), fun hl => by omega⟩
    · right
      refine ⟨v1, v2, by rw [hwn2, hwn], by omega, fun kept => ?_⟩
      obtain ⟨k1, k2, k3⟩ := v5 kept
      refine ⟨k1, k2, ?_⟩
      obtain ⟨lc, hlc⟩ : ∃ lc, (Q.2.crash kept).la = lc := ⟨_, rfl⟩
      rw [hlc] at k3 ⊢
      rw [w3] at k3
      rcases k3.one with k | k
      · left
        rw [k]
        exact hold _ Mix.upd
      · right
        exact hnew _ k
  · rw [if_pos (by rw [w1]; decide)]
    refine ⟨.inr ⟨w1, w2, hwn, w3, fun kept => ?_⟩, fun l1 l2 => ⟨w1, fun kept => hold _ (w5 kept).2.2⟩⟩
    obtain ⟨k1, k2, k3⟩ := w5 kept
    exact ⟨k1, k2, .inl (hold _ k3)⟩
section
variable [Inhabited BaseN]
/-! the calls whole -/
end
/-- Append's answer: refused, done, or stopped -/
theorem ap_spec (D : Dk) (gen half : Nat) (L : List (List UInt8)) (e : List UInt8) (hq : Quiet D) (h : JD D.la D.n gen half L) :
    (allowedB e = false ∧ apR D gen half L e = (1, D, L, false)) ∨ (allowedB e = true ∧ hz D.n < usedOf L + takes e.length ∧ apR D gen half L e = (5, D, L, false)) ∨
    (allowedB e = true ∧ usedOf L + takes e.length ≤ hz D.n ∧ StepPost D gen half L gen half (L ++ [e]) (D.wr gen half L.length (usedOf L) e) ∧
      ((D.wr gen half L.length (usedOf L) e).1 = 0 → apR D gen half L e = (0, (D.wr gen half L.length (usedOf L) e).2, L ++ [e], false)) ∧
      ((D.wr gen half L.length (usedOf L) e).1 = 2 → apR D gen half L e = (2, (D.wr gen half L.length (usedOf L) e).2, [], true))) := by
  have hu := h.used
  have e1 : hsz D = hz D.n := rfl
  cases ha : allowedB e with
  | false => left; exact ⟨rfl, by unfold apR; rw [ha, if_pos rfl]⟩
  | true =>
    right
    by_cases hf : hz D.n < usedOf L + takes e.length
    · left; exact ⟨rfl, hf, by unfold apR; rw [ha, if_neg (by decide), e1, if_pos (by omega)]⟩
    · right
      refine ⟨rfl, by omega, wr_spec D gen half L e hq h (of_decide_eq_true ha) (by omega), fun h0 => ?_, fun h2 => ?_⟩
      · unfold apR; rw [ha, if_neg (by decide), e1, if_neg (by omega), if_pos h0]
      · unfold apR; rw [ha, if_neg (by decide), e1, if_neg (by omega), if_neg (by rw [h2]; decide), h2]
theorem all_allowed {L : List (List UInt8)} (h : L.all allowedB = true) : ∀ l ∈ L, 1 ≤ l.length ∧ l.length ≤ 8192 := fun l hl => of_decide_eq_true (List.all_eq_true.1 h l hl)
theorem cp_spec (D : Dk) (gen half : Nat) (L0 L : List (List UInt8)) (hq : Quiet D) (h : JD D.la D.n gen half L0) (hg : gen + 1 < 18446744073709551616) :
    (L.all allowedB = false ∧ cpR D gen half L0 L = (1, D, (gen, half), L0, false)) ∨ (L.all allowedB = true ∧ hz D.n < usedOf L ∧ cpR D gen half L0 L = (5, D, (gen, half), L0, false)) ∨
    (L.all allowedB = true ∧ usedOf L ≤ hz D.n ∧ StepPost D gen half L0 (gen + 1) (1 - half) L (mvR D (gen + 1) (1 - half) L) ∧
      ((mvR D (gen + 1) (1 - half) L).1 = 0 → cpR D gen half L0 L = (0, (mvR D (gen + 1) (1 - half) L).2, (gen + 1, 1 - half), L, false)) ∧
      ((mvR D (gen + 1) (1 - half) L).1 = 2 → cpR D gen half L0 L = (2, (mvR D (gen + 1) (1 - half) L).2, (gen, half), [], true)) ∧
      (0 ≤ D.left → D.left ≤ hz D.n → (mvR D (gen + 1) (1 - half) L).1 = 2 ∧ ∀ kept, JD ((mvR D (gen + 1) (1 - half) L).2.crash kept).la D.n gen half L0)) := by
  have e1 : hsz D = hz D.n := rfl
  cases ha : L.all allowedB with
  | false => left; exact ⟨rfl, by unfold cpR; rw [ha, if_pos rfl]⟩
  | true =>
    right
    by_cases hf : hz D.n < usedOf L
    · left; exact ⟨rfl, hf, by unfold cpR; rw [ha, if_neg (by decide), e1, if_pos (.inl hf)]⟩
    · right
      obtain ⟨m1, m2⟩ := mv_spec D gen half L0 L hq h (all_allowed ha) (by omega) hg
      refine ⟨rfl, by omega, m1, fun h0 => ?_, fun h2 => ?_, m2⟩
      · unfold cpR; rw [ha, if_neg (by decide), e1, if_neg (by omega), if_pos h0]
      · unfold cpR; rw [ha, if_neg (by decide), e1, if_neg (by omega), if_neg (by rw [h2]; decide), h2]
/-- a new disk: Open finds none, Begin makes one -/
theorem fresh_slot (b bs n i : Nat) : slotOf ((fresh b bs n).la i) i = none := slotOf_none0 _ _ (by show (rep64 0)[0]? ≠ _; decide)
theorem fresh_best (b bs n : Nat) : bestK (fresh b bs n) 2 = none := by
  show pick (pick none (slotOf ((fresh b bs n).la 0) 0)) (slotOf ((fresh b bs n).la 1) 1) = none
  rw [fresh_slot, fresh_slot]; rfl
theorem fresh_gen (b bs n : Nat) : genN (fresh b bs n) = 1 := by unfold genN; rw [fresh_best]; rfl
theorem fresh_quiet (b bs n : Nat) : Quiet (fresh b bs n) := ⟨rfl, rfl, rfl⟩
theorem fresh_open (b bs n : Nat) (h4 : 4 ≤ n) : openE (fresh b bs n) = 3 := by
  have e : (fresh b bs n).n = n := rfl
  unfold openE
  rw [e, if_neg (by omega), if_neg (by show ¬ true = false; decide), fresh_best]; rfl
theorem fresh_begin (b bs n : Nat) (h4 : 4 ≤ n) : (begR (fresh b bs n)).1 = 0 ∧ Quiet (begR (fresh b bs n)).2 ∧ (begR (fresh b bs n)).2.n = n ∧ JD (begR (fresh b bs n)).2.la n 1 0 [] ∧ (begR (fresh b bs n)).2.left = -1 := by
  have e : (fresh b bs n).n = n := rfl
  have hl0 : (fresh b bs n).left = -1 := rfl
  have hclr : clR (fresh b bs n) 1 0 = (0, fresh b bs n) := by
    have hlf : leftR (fresh b bs n) 1 0 0 0 = (false, 0) := by
      unfold leftR
      have h1 : ¬ hsz (fresh b bs n) ≤ 0 := by show ¬ (n - 2) / 2 ≤ 0; omega
      rw [if_neg h1, if_neg (by show ¬ true = false; decide)]
      have h2 : ((rep64 0).take 13 == leadB 1 0) = false := by decide
      exact Prod.ext h2 rfl
    unfold clR
    rw [hlf, if_pos (.inr rfl)]
  obtain ⟨F, hF⟩ : ∃ F, fresh b bs n = F := ⟨_, rfl⟩
  have hFq : Quiet F := by rw [← hF]; exact fresh_quiet b bs n
  have hFn : F.n = n := by rw [← hF]; rfl
  have hFl : F.left = -1 := by rw [← hF]; rfl
  have hFla : ∀ i, F.la i = rep64 0 := fun i => by rw [← hF]; rfl
  have hFg := fresh_gen b bs n
  rw [hF] at hclr hFg ⊢
  have hw : F.write (((0 : Nat)) : Int) (noughts 64) = (0, F.dec.put 0 (noughts 64)) := write_go hFq.on (by omega) (noughts_len 64) (by rw [hFl]; decide)
  have hb : begR F = (F.dec.put 0 (noughts 64)).writes 1 (secsOf (slotB 1 0) 1) := by
    unfold begR
    rw [hFn, if_neg (by omega), if_neg (by rw [hFq.on]; decide), hFg, hclr]
    show (if (0 : Int) ≠ 0 then (0, F) else if (F.write (1 - (((1 % 2 : Nat)) : Int)) (noughts 64)).1 ≠ 0 then F.write (1 - (((1 % 2 : Nat)) : Int)) (noughts 64) else (F.write (1 - (((1 % 2 : Nat)) : Int)) (noughts 64)).2.writes (1 % 2) (secsOf (slotB 1 0) 1)) = _
    rw [if_neg (by decide), show (1 : Int) - (((1 % 2 : Nat)) : Int) = ((0 : Nat) : Int) by decide, hw, if_neg (fun h => h rfl)]
  obtain ⟨d1, d2, d3, d4, d5⟩ := F.dec_same
  have hdl : F.dec.left = -1 := by rw [F.dec_left, hFl]; rfl
  have hupd : F.dec.put 0 (noughts 64) = { F.dec with la := upd F.la 0 (noughts 64), order := [0] } := by
    unfold Dk.put
    rw [d4, hFq.ord, d3]; rfl
  obtain ⟨G, hG⟩ : ∃ G, F.dec.put 0 (noughts 64) = G := ⟨_, rfl⟩
  have g1 : G.n = n := by rw [← hG, ← hFn]; exact d1
  have g2 : G.on = true := by rw [← hG]; exact d5.trans hFq.on
  have g3 : G.left = -1 := by rw [← hG]; exact hdl
  have g4 : ∀ i, G.la i = rep64 0 := fun i => by
    rw [← hG]
    show upd F.dec.la 0 (noughts 64) i = _
    unfold upd
    rw [d3]
    split
    · rfl
    · exact hFla i
  have g5 : ∀ i, G.st i = rep64 0 := fun i => by
    rw [← hG]
    show F.dec.st i = _
    rw [d2, hFq.st]; exact hFla i
  rw [hb, hG]
  have h := wrs_spec (secsOf (slotB 1 0) 1) 1 G g2 (by rw [secsOf_len]; omega) (secsOf_64 _ 1 (slotB_len _ _)) (fun i _ => by rw [g4, g5])
  have hsame := G.writes_same 1 (secsOf (slotB 1 0) 1)
  have hx0 : secsOf (slotB 1 0) 1 = [slotB 1 0] := by
    show [((slotB 1 0).drop (0 * 64)).take 64] = _
    rw [Nat.zero_mul, List.drop_zero, List.take_of_length_le (by rw [slotB_len]; omega)]
  obtain ⟨r, hr⟩ : ∃ r, G.wrs 1 (secsOf (slotB 1 0) 1) = r := ⟨_, rfl⟩
  have hwr : G.writes 1 (secsOf (slotB 1 0) 1) = if r.1 = 0 then r.2.flush else r := by unfold Dk.writes; rw [hr]
  rw [hr] at h
  rw [hwr] at hsame ⊢
  rcases h.res with ⟨r1, r2, r3, r4⟩ | ⟨r1, r2, r3, r4, r5⟩
  · rw [if_pos r1] at hsame ⊢
    have hrl : r.2.left = -1 := by omega
    have hfl : r.2.flush = (0, r.2.dec.settle fun _ => true) := by
      unfold Dk.flush
      rw [if_neg (by rw [r2]; decide), Dk.fail_go (by omega), if_neg (by show ¬ (false = true); decide)]
    obtain ⟨q1, q2, q3, q4, q5⟩ := r.2.dec_same
    have hla : (r.2.dec.settle fun _ => true).la = updL G.la 1 [slotB 1 0] := by
      funext i
      show r.2.dec.settled (fun _ => true) i = _
      unfold Dk.settled
      rw [q2, q3, q4, ← hx0, ← r3]
      split
      · rfl
      · rename_i hi
        exact (h.w i (fun hc => hi ⟨hc, rfl⟩)).symm
    rw [hfl] at hsame ⊢
    have hj : JD (updL G.la 1 [slotB 1 0]) n 1 0 [] := by
      have a1 : updL G.la 1 [slotB 1 0] (1 % 2) = slotB 1 0 := updL_in G.la 1 [slotB 1 0] 0 _ rfl
      have a2 : ∀ i, i ≠ 1 → updL G.la 1 [slotB 1 0] i = rep64 0 := fun i hi => by rw [updL_out _ _ _ _ (by simp; omega)]; exact g4 i
      refine ⟨h4, by omega, by omega, fun i _ => ?_, a1, fun g h2 e => ?_, Nat.zero_le _, fun l hl => (by cases hl), ?_, fun _ => ?_⟩
      · by_cases hi : i = 1
        · rw [hi, show (1 : Nat) = 1 % 2 from rfl, a1]; exact slotB_len _ _
        · rw [a2 i hi]; exact rep64_len 0
      · rw [a2 _ (by decide), slotOf_none0 _ _ (by decide)] at e
        cases e
      · show List.take (0 * 64) _ = []
        simp
      · rw [a2 _ (by omega)]
        exact noughts_lead 64 1 0
    exact ⟨rfl, ⟨q5.trans r2, rfl, rfl⟩, hsame.2.2.trans g1, by show JD (r.2.dec.settle fun _ => true).la n 1 0 []; rw [hla]; exact hj, by show r.2.dec.left = -1; rw [r.2.dec_left, hrl]; rfl⟩
  · omega
end Go.Proofs.Ytcmpbablmofofaa
