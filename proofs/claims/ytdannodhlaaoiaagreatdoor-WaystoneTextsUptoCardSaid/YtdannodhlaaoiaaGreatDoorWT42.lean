/- Compact, Begin, all of Append and Open: plain. -/
import Derived.Test.YtdannodhlaaoiaaGreatDoorWT41
import Derived.Test.YtdannodhlaaoiaaGreatDoorWT40
import Derived.Lib.SlBytesConst
import Derived.Deep.DeepCutAuto
set_option linter.unusedVariables false
set_option linter.unusedSimpArgs false
set_option linter.unusedVariables false
set_option linter.unusedSimpArgs false
namespace Go.Proofs.YtdannodhlaaoiaaGreatDoor
open Go.RowKit
section
variable [Inhabited BaseN]

end
theorem imgB_len (gen H : Nat) (L : List (List UInt8)) (hu : usedOf L ≤ H) : (imgB gen H L).length = H * 64 := by
  unfold imgB
  rw [List.length_append, framesB_len, noughts_len]; omega
theorem half_other {half : Nat} (hh : half ≤ 1) : 1 - half ≤ 1 ∧ (half = 0 ∧ 1 - half = 1 ∨ half = 1 ∧ 1 - half = 0) := by omega
/-- the other half lies apart -/
theorem half_apart {half H k i : Nat} (hh : half ≤ 1) (hk : k < H) : (2 + half * H + k < 2 + (1 - half) * H ∨ 2 + (1 - half) * H + H ≤ 2 + half * H + k) := by
  rcases (half_other hh).2 with ⟨a, b⟩ | ⟨a, b⟩
  · rw [b, a]; omega
  · rw [b, a]; omega
theorem mv_spec (D : Dk) (gen half : Nat) (L0 L : List (List UInt8)) (hq : Quiet D) (h : JD D.la D.n gen half L0) (hl : ∀ l ∈ L, 1 ≤ l.length ∧ l.length ≤ 8192) (hu : usedOf L ≤ hz D.n) (hg : gen + 1 < 18446744073709551616) :
    StepPost D gen half L0 (gen + 1) (1 - half) L (mvR D (gen + 1) (1 - half) L) ∧
    (0 ≤ D.left → D.left ≤ hz D.n → (mvR D (gen + 1) (1 - half) L).1 = 2 ∧ ∀ kept, JD ((mvR D (gen + 1) (1 - half) L).2.crash kept).la D.n gen half L0) := by
  have hn4 := h.n4
  have hh := h.hlf
  have hh2 : 1 - half ≤ 1 := by omega
  obtain ⟨B, hBe⟩ : ∃ B, imgB (gen + 1) (hz D.n) L = B := ⟨_, rfl⟩
  have hBl : B.length = hz D.n * 64 := by rw [← hBe]; exact imgB_len _ _ _ hu
  obtain ⟨S, hS⟩ : ∃ S, 2 + (1 - half) * hz D.n = S := ⟨_, rfl⟩
  have hin : ∀ k, k < hz D.n → S + k < D.n := fun k hk => by rw [← hS]; exact hz_in hn4 hh2 hk
  have hH1 : 1 ≤ hz D.n := by unfold hz; omega
  have hSn : S + hz D.n ≤ D.n := by have := hin (hz D.n - 1) (by omega); omega
  have s1 := secsOf_64 B (hz D.n) hBl
  have s2 : ∀ y ∈ secsOf (slotB (gen + 1) (1 - half)) 1, y.length = 64 := secsOf_64 _ 1 (slotB_len _ _)
  have hx0 : secsOf (slotB (gen + 1) (1 - half)) 1 = [slotB (gen + 1) (1 - half)] := by
    show [((slotB (gen + 1) (1 - half)).drop (0 * 64)).take 64] = _
    rw [Nat.zero_mul, List.drop_zero, List.take_of_length_le (by rw [slotB_len]; omega)]
  have hm : (gen + 1) % 2 = 1 - gen % 2 := by omega
  have hold : ∀ la, Mix D.la la S (secsOf B (hz D.n)) → JD la D.n gen half L0 := fun la hmx =>
    h.of (fun i hi => hmx.len s1 i (h.len i hi)) (fun i hi => hmx.out i (.inl (by omega))) (fun k hk hk2 => by
      apply hmx.out
      rw [secsOf_len, ← hS]
      exact half_apart (i := 0) hh hk2)
  have hnew : ∀ la, la = updL (updL D.la S (secsOf B (hz D.n))) ((gen + 1) % 2) [slotB (gen + 1) (1 - half)] → JD la D.n (gen + 1) (1 - half) L := by
    intro la hla
    have hlt : (gen + 1) % 2 < 2 := Nat.mod_lt _ (by omega)
    have hS2 : 2 ≤ S := by omega
    have hslot : la ((gen + 1) % 2) = slotB (gen + 1) (1 - half) := by
      rw [hla]
      exact updL_in _ ((gen + 1) % 2) _ 0 _ rfl
    have hoth : la (1 - (gen + 1) % 2) = slotB gen half := by
      rw [hla, updL_out _ _ _ _ (by simp; omega), updL_out _ _ _ _ (.inl (by omega)), show 1 - (gen + 1) % 2 = gen % 2 by omega]
      exact h.slot
    have hsec : ∀ k, la (S + k) = updL D.la S (secsOf B (hz D.n)) (S + k) := fun k => by
      rw [hla, updL_out _ _ _ _ (by simp; omega)]
    have hlenH : ∀ i, i < hz D.n → (D.la (S + i)).length = 64 := fun i hi => h.len _ (hin i hi)
    have himg : hB (updL D.la S (secsOf B (hz D.n))) S (hz D.n) = B := by
      have h1 := hB_upd D.la S (hz D.n) 0 (hz D.n) B hlenH hBl (by omega)
      rw [Nat.add_zero] at h1
      rw [h1]
      unfold patch
      have h2 := hB_len D.la S (hz D.n) hlenH
      simp [List.drop_of_length_le (show (hB D.la S (hz D.n)).length ≤ B.length by omega)]
    have hll : ∀ i, i < D.n → (la i).length = 64 := fun i hi => by
      rw [hla]
      exact updL_len _ _ _ (fun x hx => by rw [List.mem_singleton.1 hx]; exact slotB_len _ _) _ (updL_len _ _ _ s1 _ (h.len i hi))
    refine ⟨hn4, hh2, hg, hll, hslot, fun g h2 e => ?_, hu, hl, ?_, fun hlt2 => ?_⟩
    · rw [hoth, show 1 - (gen + 1) % 2 = gen % 2 by omega, slotOf_slot gen half h.gn hh] at e
      injection e with e
      injection e with e
      omega
    · rw [hS]
      have h1 := hB_take (updL D.la S (secsOf B (hz D.n))) la S (hz D.n) (usedOf L) (fun i hi => updL_len _ _ _ s1 _ (hlenH i hi)) (fun i hi => hll _ (hin i hi)) hu (fun i _ => hsec i)
      rw [h1, himg, ← hBe]
      unfold imgB
      have h2 := List.take_left (l₁ := framesB (gen + 1) 0 L) (l₂ := noughts (hz D.n * 64 - usedOf L * 64))
      rw [framesB_len] at h2; exact h2
    · rw [hS, hsec, updL_in _ _ _ (usedOf L) _ (secsOf_get B _ _ hlt2), ← hBe]
      unfold imgB
      have h2 := List.drop_left (l₁ := framesB (gen + 1) 0 L) (l₂ := noughts (hz D.n * 64 - usedOf L * 64))
      rw [framesB_len] at h2
      rw [h2, List.take_take]
      have e3 : (noughts (hz D.n * 64 - usedOf L * 64)).take (min 13 64) = (noughts (hz D.n * 64 - usedOf L * 64)).take 13 := by congr 1
      rw [e3]
      exact noughts_lead _ _ _
  have hmv : mvR D (gen + 1) (1 - half) L = (let p := D.writes S (secsOf B (hz D.n)); if p.1 ≠ 0 then p else p.2.writes ((gen + 1) % 2) (secsOf (slotB (gen + 1) (1 - half)) 1)) := by
    unfold mvR
    have e1 : hsz D = hz D.n := rfl
    rw [e1, hS, hBe]
  have hw := writes_spec D S (secsOf B (hz D.n)) hq (by rw [secsOf_len]; exact hSn) s1
  have hwn := (D.writes_same S (secsOf B (hz D.n))).2.2
  obtain ⟨P, hP⟩ : ∃ P, D.writes S (secsOf B (hz D.n)) = P := ⟨_, rfl⟩
  rw [hP] at hw hwn hmv
  rw [hmv]
  simp only
  unfold WritesPost at hw
  rw [secsOf_len] at hw
  rcases hw with ⟨w1, w2, w3, w4⟩ | ⟨w1, w2, w3, w4, w5⟩
  · rw [if_neg (by rw [w1]; decide)]
    refine ⟨?_, fun l1 l2 => by omega⟩
    have hw2 := writes_spec P.2 ((gen + 1) % 2) (secsOf (slotB (gen + 1) (1 - half)) 1) w2 (by rw [hwn, secsOf_len]; omega) s2
    have hwn2 := (P.2.writes_same ((gen + 1) % 2) (secsOf (slotB (gen + 1) (1 - half)) 1)).2.2
    obtain ⟨Q, hQ⟩ : ∃ Q, P.2.writes ((gen + 1) % 2) (secsOf (slotB (gen + 1) (1 - half)) 1) = Q := ⟨_, rfl⟩
    rw [hQ] at hw2 hwn2 ⊢
    rw [hx0] at hw2
    rcases hw2 with ⟨v1, v2, v3, v4⟩ | ⟨v1, v2, v3, v4, v5⟩
    · left
      exact ⟨v1, v2, by rw [hwn2, hwn], hnew _ (by rw [v3, w3]), fun hl => by omega⟩
    · right
      refine ⟨v1, v2, by rw [hwn2, hwn], by omega, fun kept => ?_⟩
      obtain ⟨k1, k2, k3⟩ := v5 kept
      refine ⟨k1, k2, ?_⟩
      obtain ⟨lc, hlc⟩ : ∃ lc, (Q.2.crash kept).la = lc := ⟨_, rfl⟩
      rw [hlc] at k3 ⊢
      rw [w3] at k3
      rcases k3.one with k | k
      · left
        rw [k]
        exact hold _ Mix.upd
      · right
        exact hnew _ k
  · rw [if_pos (by rw [w1]; decide)]
    refine ⟨.inr ⟨w1, w2, hwn, w3, fun kept => ?_⟩, fun l1 l2 => ⟨w1, fun kept => hold _ (w5 kept).2.2⟩⟩
    obtain ⟨k1, k2, k3⟩ := w5 kept
    exact ⟨k1, k2, .inl (hold _ k3)⟩
section
variable [Inhabited BaseN]
/-! the calls whole -/
end
/-- Append's answer: refused, done, or stopped -/
theorem ap_spec (D : Dk) (gen half : Nat) (L : List (List UInt8)) (e : List UInt8) (hq : Quiet D) (h : JD D.la D.n gen half L) :
    (allowedB e = false ∧ apR D gen half L e = (1, D, L, false)) ∨ (allowedB e = true ∧ hz D.n < usedOf L + takes e.length ∧ apR D gen half L e = (5, D, L, false)) ∨
    (allowedB e = true ∧ usedOf L + takes e.length ≤ hz D.n ∧ StepPost D gen half L gen half (L ++ [e]) (D.wr gen half L.length (usedOf L) e) ∧
      ((D.wr gen half L.length (usedOf L) e).1 = 0 → apR D gen half L e = (0, (D.wr gen half L.length (usedOf L) e).2, L ++ [e], false)) ∧
      ((D.wr gen half L.length (usedOf L) e).1 = 2 → apR D gen half L e = (2, (D.wr gen half L.length (usedOf L) e).2, [], true))) := by
  have hu := h.used
  have e1 : hsz D = hz D.n := rfl
  cases ha : allowedB e with
  | false => left; exact ⟨rfl, by unfold apR; rw [ha, if_pos rfl]⟩
  | true =>
    right
    by_cases hf : hz D.n < usedOf L + takes e.length
    · left; exact ⟨rfl, hf, by unfold apR; rw [ha, if_neg (by decide), e1, if_pos (by omega)]⟩
    · right
      refine ⟨rfl, by omega, wr_spec D gen half L e hq h (of_decide_eq_true ha) (by omega), fun h0 => ?_, fun h2 => ?_⟩
      · unfold apR; rw [ha, if_neg (by decide), e1, if_neg (by omega), if_pos h0]
      · unfold apR; rw [ha, if_neg (by decide), e1, if_neg (by omega), if_neg (by rw [h2]; decide), h2]
theorem all_allowed {L : List (List UInt8)} (h : L.all allowedB = true) : ∀ l ∈ L, 1 ≤ l.length ∧ l.length ≤ 8192 := fun l hl => of_decide_eq_true (List.all_eq_true.1 h l hl)
theorem cp_spec (D : Dk) (gen half : Nat) (L0 L : List (List UInt8)) (hq : Quiet D) (h : JD D.la D.n gen half L0) (hg : gen + 1 < 18446744073709551616) :
    (L.all allowedB = false ∧ cpR D gen half L0 L = (1, D, (gen, half), L0, false)) ∨ (L.all allowedB = true ∧ hz D.n < usedOf L ∧ cpR D gen half L0 L = (5, D, (gen, half), L0, false)) ∨
    (L.all allowedB = true ∧ usedOf L ≤ hz D.n ∧ StepPost D gen half L0 (gen + 1) (1 - half) L (mvR D (gen + 1) (1 - half) L) ∧
      ((mvR D (gen + 1) (1 - half) L).1 = 0 → cpR D gen half L0 L = (0, (mvR D (gen + 1) (1 - half) L).2, (gen + 1, 1 - half), L, false)) ∧
      ((mvR D (gen + 1) (1 - half) L).1 = 2 → cpR D gen half L0 L = (2, (mvR D (gen + 1) (1 - half) L).2, (gen, half), [], true)) ∧
      (0 ≤ D.left → D.left ≤ hz D.n → (mvR D (gen + 1) (1 - half) L).1 = 2 ∧ ∀ kept, JD ((mvR D (gen + 1) (1 - half) L).2.crash kept).la D.n gen half L0)) := by
  have e1 : hsz D = hz D.n := rfl
  cases ha : L.all allowedB with
  | false => left; exact ⟨rfl, by unfold cpR; rw [ha, if_pos rfl]⟩
  | true =>
    right
    by_cases hf : hz D.n < usedOf L
    · left; exact ⟨rfl, hf, by unfold cpR; rw [ha, if_neg (by decide), e1, if_pos (.inl hf)]⟩
    · right
      obtain ⟨m1, m2⟩ := mv_spec D gen half L0 L hq h (all_allowed ha) (by omega) hg
      refine ⟨rfl, by omega, m1, fun h0 => ?_, fun h2 => ?_, m2⟩
      · unfold cpR; rw [ha, if_neg (by decide), e1, if_neg (by omega), if_pos h0]
      · unfold cpR; rw [ha, if_neg (by decide), e1, if_neg (by omega), if_neg (by rw [h2]; decide), h2]
/-- a new disk: Open finds none, Begin makes one -/
theorem fresh_slot (b bs n i : Nat) : slotOf ((fresh b bs n).la i) i = none := slotOf_none0 _ _ (by show (rep64 0)[0]? ≠ _; decide)
theorem fresh_best (b bs n : Nat) : bestK (fresh b bs n) 2 = none := by
  show pick (pick none (slotOf ((fresh b bs n).la 0) 0)) (slotOf ((fresh b bs n).la 1) 1) = none
  rw [fresh_slot, fresh_slot]; rfl
theorem fresh_gen (b bs n : Nat) : genN (fresh b bs n) = 1 := by unfold genN; rw [fresh_best]; rfl
theorem fresh_quiet (b bs n : Nat) : Quiet (fresh b bs n) := ⟨rfl, rfl, rfl⟩
theorem fresh_open (b bs n : Nat) (h4 : 4 ≤ n) : openE (fresh b bs n) = 3 := by
  have e : (fresh b bs n).n = n := rfl
  unfold openE
  rw [e, if_neg (by omega), if_neg (by show ¬ true = false; decide), fresh_best]; rfl
theorem fresh_begin (b bs n : Nat) (h4 : 4 ≤ n) : (begR (fresh b bs n)).1 = 0 ∧ Quiet (begR (fresh b bs n)).2 ∧ (begR (fresh b bs n)).2.n = n ∧ JD (begR (fresh b bs n)).2.la n 1 0 [] ∧ (begR (fresh b bs n)).2.left = -1 := by
  have e : (fresh b bs n).n = n := rfl
  have hl0 : (fresh b bs n).left = -1 := rfl
  have hclr : clR (fresh b bs n) 1 0 = (0, fresh b bs n) := by
    have hlf : leftR (fresh b bs n) 1 0 0 0 = (false, 0) := by
      unfold leftR
      have h1 : ¬ hsz (fresh b bs n) ≤ 0 := by show ¬ (n - 2) / 2 ≤ 0; omega
      rw [if_neg h1, if_neg (by show ¬ true = false; decide)]
      have h2 : ((rep64 0).take 13 == leadB 1 0) = false := by decide
      exact Prod.ext h2 rfl
    unfold clR
    rw [hlf, if_pos (.inr rfl)]
  obtain ⟨F, hF⟩ : ∃ F, fresh b bs n = F := ⟨_, rfl⟩
  have hFq : Quiet F := by rw [← hF]; exact fresh_quiet b bs n
  have hFn : F.n = n := by rw [← hF]; rfl
  have hFl : F.left = -1 := by rw [← hF]; rfl
  have hFla : ∀ i, F.la i = rep64 0 := fun i => by rw [← hF]; rfl
  have hFg := fresh_gen b bs n
  rw [hF] at hclr hFg ⊢
  have hw : F.write (((0 : Nat)) : Int) (noughts 64) = (0, F.dec.put 0 (noughts 64)) := write_go hFq.on (by omega) (noughts_len 64) (by rw [hFl]; decide)
  have hb : begR F = (F.dec.put 0 (noughts 64)).writes 1 (secsOf (slotB 1 0) 1) := by
    unfold begR
    rw [hFn, if_neg (by omega), if_neg (by rw [hFq.on]; decide), hFg, hclr]
    show (if (0 : Int) ≠ 0 then (0, F) else if (F.write (1 - (((1 % 2 : Nat)) : Int)) (noughts 64)).1 ≠ 0 then F.write (1 - (((1 % 2 : Nat)) : Int)) (noughts 64) else (F.write (1 - (((1 % 2 : Nat)) : Int)) (noughts 64)).2.writes (1 % 2) (secsOf (slotB 1 0) 1)) = _
    rw [if_neg (by decide), show (1 : Int) - (((1 % 2 : Nat)) : Int) = ((0 : Nat) : Int) by decide, hw, if_neg (fun h => h rfl)]
  obtain ⟨d1, d2, d3, d4, d5⟩ := F.dec_same
  have hdl : F.dec.left = -1 := by rw [F.dec_left, hFl]; rfl
  have hupd : F.dec.put 0 (noughts 64) = { F.dec with la := upd F.la 0 (noughts 64), order := [0] } := by
    unfold Dk.put
    rw [d4, hFq.ord, d3]; rfl
  obtain ⟨G, hG⟩ : ∃ G, F.dec.put 0 (noughts 64) = G := ⟨_, rfl⟩
  have g1 : G.n = n := by rw [← hG, ← hFn]; exact d1
  have g2 : G.on = true := by rw [← hG]; exact d5.trans hFq.on
  have g3 : G.left = -1 := by rw [← hG]; exact hdl
  have g4 : ∀ i, G.la i = rep64 0 := fun i => by
    rw [← hG]
    show upd F.dec.la 0 (noughts 64) i = _
    unfold upd
    rw [d3]
    split
    · rfl
    · exact hFla i
  have g5 : ∀ i, G.st i = rep64 0 := fun i => by
    rw [← hG]
    show F.dec.st i = _
    rw [d2, hFq.st]; exact hFla i
  rw [hb, hG]
  have h := wrs_spec (secsOf (slotB 1 0) 1) 1 G g2 (by rw [secsOf_len]; omega) (secsOf_64 _ 1 (slotB_len _ _)) (fun i _ => by rw [g4, g5])
  have hsame := G.writes_same 1 (secsOf (slotB 1 0) 1)
  have hx0 : secsOf (slotB 1 0) 1 = [slotB 1 0] := by
    show [((slotB 1 0).drop (0 * 64)).take 64] = _
    rw [Nat.zero_mul, List.drop_zero, List.take_of_length_le (by rw [slotB_len]; omega)]
  obtain ⟨r, hr⟩ : ∃ r, G.wrs 1 (secsOf (slotB 1 0) 1) = r := ⟨_, rfl⟩
  have hwr : G.writes 1 (secsOf (slotB 1 0) 1) = if r.1 = 0 then r.2.flush else r := by unfold Dk.writes; rw [hr]
  rw [hr] at h
  rw [hwr] at hsame ⊢
  rcases h.res with ⟨r1, r2, r3, r4⟩ | ⟨r1, r2, r3, r4, r5⟩
  · rw [if_pos r1] at hsame ⊢
    have hrl : r.2.left = -1 := by omega
    have hfl : r.2.flush = (0, r.2.dec.settle fun _ => true) := by
      unfold Dk.flush
      rw [if_neg (by rw [r2]; decide), Dk.fail_go (by omega), if_neg (by show ¬ (false = true); decide)]
    obtain ⟨q1, q2, q3, q4, q5⟩ := r.2.dec_same
    have hla : (r.2.dec.settle fun _ => true).la = updL G.la 1 [slotB 1 0] := by
      funext i
      show r.2.dec.settled (fun _ => true) i = _
      unfold Dk.settled
      rw [q2, q3, q4, ← hx0, ← r3]
      split
      · rfl
      · rename_i hi
        exact (h.w i (fun hc => hi ⟨hc, rfl⟩)).symm
    rw [hfl] at hsame ⊢
    have hj : JD (updL G.la 1 [slotB 1 0]) n 1 0 [] := by
      have a1 : updL G.la 1 [slotB 1 0] (1 % 2) = slotB 1 0 := updL_in G.la 1 [slotB 1 0] 0 _ rfl
      have a2 : ∀ i, i ≠ 1 → updL G.la 1 [slotB 1 0] i = rep64 0 := fun i hi => by rw [updL_out _ _ _ _ (by simp; omega)]; exact g4 i
      refine ⟨h4, by omega, by omega, fun i _ => ?_, a1, fun g h2 e => ?_, Nat.zero_le _, fun l hl => (by cases hl), ?_, fun _ => ?_⟩
      · by_cases hi : i = 1
        · rw [hi, show (1 : Nat) = 1 % 2 from rfl, a1]; exact slotB_len _ _
        · rw [a2 i hi]; exact rep64_len 0
      · rw [a2 _ (by decide), slotOf_none0 _ _ (by decide)] at e
        cases e
      · show List.take (0 * 64) _ = []
        simp
      · rw [a2 _ (by omega)]
        exact noughts_lead 64 1 0
    exact ⟨rfl, ⟨q5.trans r2, rfl, rfl⟩, hsame.2.2.trans g1, by show JD (r.2.dec.settle fun _ => true).la n 1 0 []; rw [hla]; exact hj, by show r.2.dec.left = -1; rw [r.2.dec_left, hrl]; rfl⟩
  · omega
end Go.Proofs.YtdannodhlaaoiaaGreatDoor
/- stays: the plain run. -/
set_option linter.unusedVariables false
namespace Go.Proofs.YtdannodhlaaoiaaGreatDoor
open Go.RowKit

def oneB : List UInt8 := [111, 110, 101]
def sD1 (b bs : Nat) : Dk := (begR (fresh b bs 8)).2
def sD2 (b bs : Nat) : Dk := (apR (sD1 b bs) 1 0 [] oneB).2.1
theorem stay1 (b bs : Nat) : (begR (fresh b bs 8)).1 = 0 := by kernel_rfl
theorem stay2 (b bs : Nat) : genN (fresh b bs 8) = 1 := by kernel_rfl
theorem stay3 (b bs : Nat) : (apR (sD1 b bs) 1 0 [] oneB).1 = 0 := by kernel_rfl
theorem stay4 (b bs : Nat) : openE (sD2 b bs) = 0 := by kernel_rfl
theorem stay5 (b bs : Nat) : openG (sD2 b bs) = 1 := by kernel_rfl
theorem stay6 (b bs : Nat) : openH (sD2 b bs) = 0 := by kernel_rfl
theorem stay7 (b bs : Nat) : openL (sD2 b bs) = [oneB] := by kernel_rfl
theorem stay8 (b bs : Nat) : (apR (sD1 b bs) 1 0 [] oneB).2.2 = ([oneB], false) := by kernel_rfl
theorem stay9 : crc [49, 50, 51, 52, 53, 54, 55, 56, 57] = 3421780262 := by kernel_rfl
theorem stayB (b bs : Nat) : (sD1 b bs).b = b ∧ (sD1 b bs).n = 8 ∧ (sD2 b bs).b = b ∧ (sD2 b bs).n = 8 := ⟨by kernel_rfl, by kernel_rfl, by kernel_rfl, by kernel_rfl⟩
end Go.Proofs.YtdannodhlaaoiaaGreatDoor
/- stays: walked. -/
set_option linter.unusedVariables false
set_option linter.unusedSimpArgs false
namespace Go.Proofs.YtdannodhlaaoiaaGreatDoor
open Go.RowKit
section
variable [Inhabited BaseN]

theorem NewJ.ok {w w' : World} {r : Int × Dk} {gen half : Nat} {L : List (List UInt8)} {x : Ending} (h : NewJ w r gen half L x w') (h0 : r.1 = 0) : KeepD w w' ∧ ∃ jb ev, x = .returned (.tuple #[.pointer (some ⟨jb, 0, none⟩), .int .i64 0]) ∧ w.heap.size ≤ jb ∧ JAt w w' jb r.2 gen half ev L false := by
  obtain ⟨h1, h2⟩ := h
  rw [if_pos h0] at h2
  exact ⟨h1, h2⟩
def nineB : List UInt8 := [49, 50, 51, 52, 53, 54, 55, 56, 57]
/-- a constant's bytes: a new block with the mark -/
theorem const_bytes (w : World) (l : List UInt8) (n : Nat) (hn : l.length = n) (r : Nat × Nat) : BytesAt (w.alloc (.cells (l.map bv).toArray 5 r)) (.slice (some ⟨w.heap.size, 0, none⟩) n n) l ∧ ¬ DTy (w.alloc (.cells (l.map bv).toArray 5 r)) w.heap.size := by
  subst hn
  have hb : (w.alloc (.cells (l.map bv).toArray 5 r)).heap[w.heap.size]? = some (.cells (l.map bv).toArray 5 r) := heap_alloc_last w _
  refine ⟨BytesAt.of rfl (Nat.le_refl _) (fun j u hu => ?_), fun ⟨_, cs, t, r2, h1, h2⟩ => ?_⟩
  · unfold World.cell?
    simp only [hb]
    simpa using hu
  · rw [hb] at h1
    injection h1 with h1
    injection h1 with _ h1 _
    subst h1
    revert h2; decide
end
end Go.Proofs.YtdannodhlaaoiaaGreatDoor
/- JournalSums: walked. -/
set_option linter.unusedVariables false
set_option linter.unusedSimpArgs false
namespace Go.Proofs.YtdannodhlaaoiaaGreatDoor
open Go.RowKit
section
variable [Inhabited BaseN]

theorem keepNo {w w' : World} (k : KeepD w w') (h : w.heap.size ≤ base0) : Keeps (fun _ => False) w w' := Keeps.trans' (Keeps.refl (fun _ => False) w) k (fun i hi => .inr (Nat.le_trans h hi.1))
/-- of a base behind the first world -/
theorem keepNo2 {w w1 w2 : World} (h1 : Keeps (fun _ => False) w w1) (k : KeepD w1 w2) (h : w.heap.size ≤ base0) : Keeps (fun _ => False) w w2 := Keeps.trans' h1 k (fun i hi => .inr (Nat.le_trans h hi.1))
end
theorem BytesAt.upto {w : World} {p : Option Addr} {n c : Nat} {x : List UInt8} (h : BytesAt w (.slice p n c) x) (m : Nat) (hm : m ≤ x.length) : BytesAt w (.slice p m c) (x.take m) := by
  obtain ⟨p', c', e, h1, h2, h3⟩ := h
  injection e with e1 e2 e3
  subst e1; subst e3
  have hl : (x.take m).length = m := by rw [List.length_take]; omega
  refine ⟨p, c, by rw [hl], h1, by rw [hl]; omega, fun h0 => ?_⟩
  obtain ⟨g, o, e, hr⟩ := h3 (by omega)
  refine ⟨g, o, e, fun j u hu => hr j u ?_⟩
  rw [List.map_take, List.getElem?_take] at hu
  split at hu
  · exact hu
  · cases hu
theorem umod (n m : Int) (hm : 0 < m) (hm2 : m ≤ 1000000) : wrap64 ((IntKind.u64.wrap n).tmod m) = (((n % 18446744073709551616) % m).toNat : Int) ∧ (((n % 18446744073709551616) % m).toNat : Int) < m := by
  have h0 := Int.emod_nonneg n (b := 18446744073709551616) (by decide)
  have h1 : IntKind.u64.wrap n = n % 18446744073709551616 := by simp [IntKind.wrap, IntKind.signed, IntKind.bits]
  have h2 : (n % 18446744073709551616).tmod m = (n % 18446744073709551616) % m := Int.tmod_eq_emod_of_nonneg h0
  have h3 := Int.emod_nonneg (n % 18446744073709551616) (b := m) (by omega)
  have h4 := Int.emod_lt_of_pos (n % 18446744073709551616) hm
  rw [h1, h2]
  constructor
  · unfold wrap64
    omega
  · omega
section
variable [Inhabited BaseN]
end
end Go.Proofs.YtdannodhlaaoiaaGreatDoor
/- A journal in memory and on its disk: what each call answers and makes, as the laws want it. -/
set_option linter.unusedVariables false
set_option linter.unusedSimpArgs false
namespace Go.Proofs.YtdannodhlaaoiaaGreatDoor
open Go.RowKit
section
variable [Inhabited BaseN]

end
section
variable [Inhabited BaseN]
/-- the blocks that a journal's calls turn, by their types -/
def JTy (w : World) (k : Nat) : Prop := base0 ≤ k ∧ ∃ cs t r, w.heap[k]? = some (.cells cs t r) ∧ (t = 86 ∨ t = 139 ∨ t = 3 ∨ t = 94 ∨ t = 31)
def KeepJ (w w' : World) : Prop := Keeps (JTy w) w w'
theorem DTy.j {w : World} {k : Nat} (h : DTy w k) : JTy w k := by
  obtain ⟨h0, cs, t, r, h1, h2⟩ := h
  refine ⟨h0, cs, t, r, h1, ?_⟩
  rcases h2 with h2 | h2 | h2
  · exact .inl h2
  · exact .inr (.inl h2)
  · exact .inr (.inr (.inl h2))
theorem KeepJ.refl (w : World) : KeepJ w w := Keeps.refl _ _
theorem KeepJ.trans {a b c : World} (h : KeepJ a b) (k : KeepJ b c) : KeepJ a c := Keeps.trans' h k (fun i hi => by
  by_cases hl : i < a.heap.size
  · by_cases hd : JTy a i
    · exact .inl hd
    · have e := h.block i hl hd
      obtain ⟨hb0, cs, t, r, h1, h2⟩ := hi
      rw [e] at h1
      exact .inl ⟨hb0, cs, t, r, h1, h2⟩
  · exact .inr (by omega))
theorem KeepJ.of {a b : World} (h : Keeps (fun _ => False) a b) : KeepJ a b := Keeps.mono h (fun i f => f.elim)
theorem KeepJ.ofD {a b : World} (h : KeepD a b) : KeepJ a b := Keeps.mono h (fun i hi => .inl hi.j)
theorem KeepJ.thenK {a b c : World} (h : KeepJ a b) (k : Keeps (fun _ => False) b c) : KeepJ a c := h.trans (.of k)
theorem KeepJ.thenD {a b c : World} (h : KeepJ a b) (k : KeepD b c) : KeepJ a c := h.trans (.ofD k)
theorem KeepJ.no {w w1 w2 : World} (h1 : Keeps (fun _ => False) w w1) (k : KeepJ w1 w2) (h : w.heap.size ≤ base0) : Keeps (fun _ => False) w w2 := Keeps.trans' h1 k (fun i hi => .inr (Nat.le_trans h hi.1))
theorem JHead.jty {w : World} {jb db gen half : Nat} {ev : Value} {used : Nat} {ended : Bool} (h : JHead w jb db gen half ev used ended) (hb : base0 ≤ jb) : JTy w jb := ⟨hb, _, _, _, h.hd, .inr (.inr (.inr (.inl rfl)))⟩
/-- a journal, in memory and on its disk -/
structure JS (w0 w : World) (jb n gen half : Nat) (ev : Value) (L : List (List UInt8)) (D : Dk) : Prop where
  j : JAt w0 w jb D gen half ev L false
  q : Quiet D
  jd : JD D.la n gen half L
  n : D.n = n
  b0 : base0 ≤ w0.heap.size
  jb0 : base0 ≤ jb
theorem JS.keep {w0 w w' : World} {jb n gen half : Nat} {ev : Value} {L : List (List UInt8)} {D : Dk} (h : JS w0 w jb n gen half ev L D) (k : Keeps (fun _ => False) w w') : JS w0 w' jb n gen half ev L D := ⟨h.j.keep k, h.q, h.jd, h.n, h.b0, h.jb0⟩
theorem JS.hsz {w0 w : World} {jb n gen half : Nat} {ev : Value} {L : List (List UInt8)} {D : Dk} (h : JS w0 w jb n gen half ev L D) : hsz D = hz n := by unfold Go.Proofs.YtdannodhlaaoiaaGreatDoor.hsz hz; rw [h.n]
theorem JS.evty {w0 w : World} {jb n gen half : Nat} {ev : Value} {L : List (List UInt8)} {D : Dk} (h : JS w0 w jb n gen half ev L D) (i : Nat) (hi : ev.ownBlock = some i) : JTy w i := by
  obtain ⟨vs, -, h2, -⟩ := h.j.ents
  obtain ⟨cs, r, h3⟩ := h2.ty hi
  exact ⟨Nat.le_trans h.b0 (h2.2.1 i hi), cs, _, r, h3, .inr (.inr (.inr (.inr rfl)))⟩
/-- behind an Append or a Compact -/
def OutJ (w0 w : World) (jb n gen half gen' half' : Nat) (ev : Value) (L L' : List (List UInt8)) (D D' : Dk) (ok fits : Prop) (c : Int) : Prop :=
  D'.b = D.b ∧ ((c = 1 ∧ ¬ ok ∧ D' = D ∧ JS w0 w jb n gen half ev L D') ∨ (c = 5 ∧ ok ∧ ¬ fits ∧ D' = D ∧ JS w0 w jb n gen half ev L D') ∨
  (c = 0 ∧ ok ∧ fits ∧ (D.left < 0 → D'.left = D.left) ∧ JS w0 w jb n gen' half' ev L' D') ∨
  (c = 2 ∧ ok ∧ fits ∧ 0 ≤ D.left ∧ D'.n = n ∧ DkAt D' w ∧ ∀ kept, Quiet (D'.crash kept) ∧ (D'.crash kept).left = -1 ∧ (JD (D'.crash kept).la n gen half L ∨ JD (D'.crash kept).la n gen' half' L')))
theorem append_js (w0 w : World) (jb n gen half : Nat) (ev : Value) (L : List (List UInt8)) (D : Dk) (v : Value) (e : List UInt8) (h : Hid (JS w0 w jb n gen half ev L D)) (hv : Hid (BytesAt w v e)) (he : e.length ≤ 1000000) (hvd : Hid (∀ k, v.ownBlock = some k → ¬ DTy w k)) :
    Calls Tryz.prog 12 #[.pointer (some ⟨jb, 0, none⟩), v] w fun x w' => ∃ c ev' D', x = .returned (.int .i64 c) ∧ KeepJ w w' ∧ JKeep jb ev w w' ∧ OutJ w0 w' jb n gen half gen half ev' L (L ++ [e]) D D' (allowedB e = true) (usedOf L + takes e.length ≤ hz n) c := by
  have hs := h.out.hsz
  have hjd : JD D.la D.n gen half L := by rw [h.out.n]; exact h.out.jd
  have ha := append_any w0 jb gen half ev L D v e w (Lib.hid h.out.j) hv he hvd (by rw [h.out.n]; exact h.out.jd.n4) h.out.jd.hlf h.out.jd.gn (by rw [hs]; exact h.out.jd.used) (by rw [hs]; exact h.out.jd.lenL)
  refine ha.mono ?_
  rintro x w' ⟨rfl, ev', hJ, hk⟩
  have hkJ : KeepJ w w' := Keeps.mono hk (fun i hi => by
    rcases hi with hi | hi | hi
    · exact .inl hi.j
    · rw [hi]; exact .inl (h.out.j.head.jty h.out.jb0)
    · exact .inl (h.out.evty i hi))
  refine ⟨(apR D gen half L e).1, ev', (apR D gen half L e).2.1, rfl, hkJ, hk, ?_⟩
  have hsame := D.wr_same gen half L.length (usedOf L) e
  rcases ap_spec D gen half L e h.out.q hjd with ⟨a1, a2⟩ | ⟨a1, a2, a3⟩ | ⟨a1, a2, a3, a4, a5⟩
  · rw [a2] at hJ ⊢
    exact ⟨rfl, .inl ⟨rfl, by rw [a1]; decide, rfl, hJ, h.out.q, h.out.jd, h.out.n, h.out.b0, h.out.jb0⟩⟩
  · rw [a3] at hJ ⊢
    rw [h.out.n] at a2
    exact ⟨rfl, .inr (.inl ⟨rfl, a1, by omega, rfl, hJ, h.out.q, h.out.jd, h.out.n, h.out.b0, h.out.jb0⟩)⟩
  · rw [h.out.n] at a2
    rcases a3 with ⟨b1, b2, b3, b4, b5⟩ | ⟨b1, b2, b3, b4, b5⟩
    · rw [a4 b1] at hJ ⊢
      rw [h.out.n] at b3 b4
      exact ⟨hsame.1, .inr (.inr (.inl ⟨rfl, a1, a2, b5, hJ, b2, b4, b3, h.out.b0, h.out.jb0⟩))⟩
    · rw [a5 b1] at hJ ⊢
      rw [h.out.n] at b3 b5
      exact ⟨hsame.1, .inr (.inr (.inr ⟨rfl, a1, a2, b4, b3, hJ.dk, b5⟩))⟩
theorem open_js (w : World) (n gen half : Nat) (L : List (List UInt8)) (D : Dk) (hb : base0 ≤ w.heap.size) (hD : Hid (DkAt D w)) (hq : Hid (Quiet D)) (hjd : Hid (JD D.la n gen half L)) (hn : Hid (D.n = n)) :
    Calls Tryz.prog 14 #[.pointer (some ⟨D.b, 0, none⟩)] w fun x w' => KeepD w w' ∧ ∃ jb ev, x = .returned (.tuple #[.pointer (some ⟨jb, 0, none⟩), .int .i64 0]) ∧ w.heap.size ≤ jb ∧ JS w w' jb n gen half ev L D := by
  obtain ⟨o1, o2, o3, o4⟩ := open_spec hq.out.on (show JD D.la D.n gen half L by rw [hn.out]; exact hjd.out)
  refine (open_any D w hD).mono ?_
  intro x w' hx
  rw [o1, o2, o3, o4] at hx
  obtain ⟨k, jb, ev, e, hjb, hJ⟩ := hx.ok rfl
  exact ⟨k, jb, ev, e, hjb, hJ, hq.out, hjd.out, hn.out, hb, Nat.le_trans hb hjb⟩
end
theorem clR_b (D : Dk) (gen half : Nat) : (clR D gen half).2.b = D.b := by
  unfold clR
  split
  · rfl
  · exact (D.writes_same _ _).1
theorem begR_b (D : Dk) : (begR D).2.b = D.b := by
  have h1 := clR_b D (genN D) 0
  have h2 := (clR D (genN D) 0).2.write_same (1 - ((genN D % 2 : Nat) : Int)) (noughts 64)
  have h3 := ((clR D (genN D) 0).2.write (1 - ((genN D % 2 : Nat) : Int)) (noughts 64)).2.writes_same (genN D % 2) (secsOf (slotB (genN D) 0) 1)
  unfold begR
  split
  · rfl
  · split
    · rfl
    · split
      · exact h1
      · split
        · rw [h2.1, h1]
        · rw [h3.1, h2.1, h1]
section
variable [Inhabited BaseN]
theorem begin_js (w : World) (b bs n : Nat) (h4 : 4 ≤ n) (hb : base0 ≤ w.heap.size) (hD : Hid (DkAt (fresh b bs n) w)) :
    Calls Tryz.prog 10 #[.pointer (some ⟨b, 0, none⟩)] w fun x w' => KeepD w w' ∧ ∃ jb ev D, x = .returned (.tuple #[.pointer (some ⟨jb, 0, none⟩), .int .i64 0]) ∧ w.heap.size ≤ jb ∧ D.b = b ∧ D.left = -1 ∧ JS w w' jb n 1 0 ev [] D := by
  obtain ⟨o1, o2, o3, o4, o5⟩ := fresh_begin b bs n h4
  refine (begin_any (fresh b bs n) w hD).mono ?_
  intro x w' hx
  rw [fresh_gen] at hx
  obtain ⟨k, jb, ev, e, hjb, hJ⟩ := hx.ok o1
  exact ⟨k, jb, ev, _, e, hjb, begR_b _, o5, hJ, o2, o4, o3, hb, Nat.le_trans hb hjb⟩
/-- a new disk -/
theorem new_js (n : Nat) (w : World) (h1 : 1 ≤ n) (h2 : n ≤ 1024) (hb : base0 ≤ w.heap.size) : Calls Tryz.prog 9 #[.int .i64 n] w fun e w' => ∃ b bs, e = .returned (.tuple #[.pointer (some ⟨b, 0, none⟩), .int .i64 0]) ∧ DkAt (fresh b bs n) w' ∧ Keeps (fun _ => False) w w' :=
  (own_new n w h1 h2).mono fun e w' ⟨b, bs, he, ⟨v, hm, hf⟩, hk⟩ => ⟨b, bs, he, ⟨v, hm, fun k hk => Nat.le_trans hb (hf k hk)⟩, hk⟩
theorem dk_crash (D : Dk) (w : World) (kv : Value) (kept : List Bool) (h : DkAt D w) (hk : BoolsAt w kv kept) (hsep : 0 < kept.length → ∀ k, kv.ownBlock = some k → k < base0) :
    Calls Tryz.prog 13 #[.pointer (some ⟨D.b, 0, none⟩), kv] w fun e w' => e = .returned (.tuple #[]) ∧ DkAt (D.crash kept) w' ∧ KeepD w w' := by
  obtain ⟨v, hm, hbb⟩ := h
  exact (crash_any D v w kv kept hm hk (fun h0 k hk e => by
    have h1 := hsep h0 k hk
    have h2 := hbb D.bs (.inr (.inl rfl))
    omega)).mono fun e w' ⟨he, ha⟩ => ⟨he, DkAt.of hm hbb ha⟩
/-- a journal whose disk is armed anew -/
theorem JS.arm {w0 w w' : World} {jb n gen half : Nat} {ev : Value} {L : List (List UInt8)} {D : Dk} (h : JS w0 w jb n gen half ev L D) (s : Int) (hD : DkAt { D with left := s } w') (k : KeepD w w') : JS w0 w' jb n gen half ev L { D with left := s } :=
  ⟨⟨h.j.head.keepD k, h.j.ents.keepD k, hD⟩, ⟨h.q.on, h.q.ord, h.q.st⟩, h.jd, h.n, h.b0, h.jb0⟩
theorem all_js (w0 w : World) (jb n gen half : Nat) (ev : Value) (L : List (List UInt8)) (D : Dk) (h : Hid (JS w0 w jb n gen half ev L D)) : Calls Tryz.prog 15 #[.pointer (some ⟨jb, 0, none⟩)] w (EntsRes L w) := by
  have h1 := h.out.jd.lenL
  have h2 : hz n ≤ 600 := by
    have := h.out.j.dk.n1.2
    rw [h.out.n] at this
    unfold hz; omega
  exact all_any w0 jb gen half ev L false D w (Lib.hid h.out.j) (by omega) (Lib.hid (fun l hl => by have := h.out.jd.lens l hl; omega))
theorem free_js (w0 w : World) (jb n gen half : Nat) (ev : Value) (L : List (List UInt8)) (D : Dk) (h : Hid (JS w0 w jb n gen half ev L D)) : Calls Tryz.prog 42 #[.pointer (some ⟨jb, 0, none⟩)] w fun e w' => e = .returned (.int .i64 (hz n - usedOf L : Nat)) ∧ w.drew = w' := by
  have hf := free_any jb gen half ev (usedOf L) _ D w h.out.j.head h.out.j.dk.own h.out.j.dk.n1.2 (by rw [h.out.n]; exact h.out.jd.n4) (by rw [h.out.n]; exact h.out.jd.used)
  rw [h.out.n] at hf
  exact hf
end
end Go.Proofs.YtdannodhlaaoiaaGreatDoor
