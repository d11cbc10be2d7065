/- writeSectors. -/
import Derived.Test.YtcmpbablmofofaaJL
import Derived.Deep.DeepCutAuto
set_option linter.unusedVariables false
set_option linter.unusedSimpArgs false
namespace Go.Proofs.Ytcmpbablmofofaa
open Go.RowKit
section
variable [Inhabited BaseN]

/-- sectors written one behind the other, as far as it goes -/
def Dk.wrs (D : Dk) (s : Nat) : List (List UInt8) → Int × Dk
  | [] => (0, D)
  | x :: r => if (D.write s x).1 = 0 then (D.write s x).2.wrs (s + 1) r else D.write s x
def Dk.writes (D : Dk) (s : Nat) (l : List (List UInt8)) : Int × Dk := if (D.wrs s l).1 = 0 then (D.wrs s l).2.flush else D.wrs s l
end
theorem Dk.wrs_snoc {s : Nat} {x : List UInt8} : ∀ {l : List (List UInt8)} {D D' : Dk}, D.wrs s l = (0, D') → D.wrs s (l ++ [x]) = D'.write ((s + l.length : Nat) : Int) x := by
  intro l
  induction l generalizing s with
  | nil =>
    intro D D' h
    have e : D = D' := by injection h
    subst e
    show (if (D.write s x).1 = 0 then _ else _) = _
    split
    · rename_i h0
      show ((0 : Int), (D.write s x).2) = _
      rw [← h0]; rfl
    · rfl
  | cons y l ih =>
    intro D D' h
    show (if (D.write s y).1 = 0 then _ else _) = _
    have h2 : (if (D.write s y).1 = 0 then (D.write s y).2.wrs (s + 1) l else D.write s y) = (0, D') := h
    split
    · rename_i h0
      rw [if_pos h0] at h2
      have h3 := ih h2
      show (D.write s y).2.wrs (s + 1) (l ++ [x]) = _
      rw [h3, List.length_cons, show s + 1 + l.length = s + (l.length + 1) by omega]
    · rename_i h0
      rw [if_neg h0] at h2
      rw [h2] at h0; exact absurd rfl h0
theorem Dk.wrs_bad {s : Nat} {r : List (List UInt8)} : ∀ {l : List (List UInt8)} {D D' : Dk} {e : Int}, D.wrs s l = (e, D') → e ≠ 0 → D.wrs s (l ++ r) = (e, D') := by
  intro l
  induction l generalizing s with
  | nil =>
    intro D D' e h h0
    have h1 : (0 : Int) = e := by injection h
    exact absurd h1.symm h0
  | cons y l ih =>
    intro D D' e h h0
    show (if (D.write s y).1 = 0 then _ else _) = _
    have h2 : (if (D.write s y).1 = 0 then (D.write s y).2.wrs (s + 1) l else D.write s y) = (e, D') := h
    split
    · rename_i h3
      rw [if_pos h3] at h2
      exact ih h2 h0
    · rename_i h3
      rw [if_neg h3] at h2
      exact h2
theorem Dk.write_same (D : Dk) (i : Int) (x : List UInt8) : (D.write i x).2.b = D.b ∧ (D.write i x).2.bs = D.bs ∧ (D.write i x).2.n = D.n := by
  obtain ⟨h1, h2, h3, -⟩ := D.fail_same
  unfold Dk.write
  repeat' split
  all_goals first | exact ⟨rfl, rfl, rfl⟩ | exact ⟨h1, h2, h3⟩
theorem Dk.wrs_same : ∀ (l : List (List UInt8)) (s : Nat) (D : Dk), (D.wrs s l).2.b = D.b ∧ (D.wrs s l).2.bs = D.bs ∧ (D.wrs s l).2.n = D.n := by
  intro l
  induction l with
  | nil => intro s D; exact ⟨rfl, rfl, rfl⟩
  | cons y l ih =>
    intro s D
    have h := D.write_same s y
    show (if (D.write s y).1 = 0 then (D.write s y).2.wrs (s + 1) l else D.write s y).2.b = D.b ∧ _
    by_cases h0 : (D.write s y).1 = 0
    · have h2 := ih (s + 1) (D.write s y).2
      have e : D.wrs s (y :: l) = (D.write s y).2.wrs (s + 1) l := if_pos h0
      rw [e, if_pos h0, h2.1, h2.2.1, h2.2.2]; exact h
    · have e : D.wrs s (y :: l) = D.write s y := if_neg h0
      rw [e, if_neg h0]; exact h
theorem Dk.flush_same (D : Dk) : D.flush.2.b = D.b ∧ D.flush.2.bs = D.bs ∧ D.flush.2.n = D.n := by
  obtain ⟨h1, h2, h3, -⟩ := D.fail_same
  unfold Dk.flush
  repeat' split
  all_goals first | exact ⟨rfl, rfl, rfl⟩ | exact ⟨h1, h2, h3⟩
theorem Dk.writes_same (D : Dk) (s : Nat) (l : List (List UInt8)) : (D.writes s l).2.b = D.b ∧ (D.writes s l).2.bs = D.bs ∧ (D.writes s l).2.n = D.n := by
  have h := Dk.wrs_same l s D
  unfold Dk.writes
  split
  · have h2 := (D.wrs s l).2.flush_same
    rw [h2.1, h2.2.1, h2.2.2]; exact h
  · exact h
section
variable [Inhabited BaseN]
/-- sectors of bytes -/
def secsOf (x : List UInt8) : Nat → List (List UInt8)
  | 0 => []
  | m + 1 => secsOf x m ++ [(x.drop (m * 64)).take 64]
end
theorem secsOf_len (x : List UInt8) (m : Nat) : (secsOf x m).length = m := by
  induction m with
  | zero => rfl
  | succ m ih => unfold secsOf; rw [List.length_append, ih]; rfl
theorem secsOf_more (x : List UInt8) (k m : Nat) (h : k ≤ m) : ∃ r, secsOf x m = secsOf x k ++ r := by
  induction m with
  | zero => exact ⟨[], by have : k = 0 := by omega
                          subst this; rfl⟩
  | succ m ih =>
    by_cases e : k = m + 1
    · exact ⟨[], by rw [e]; simp⟩
    · obtain ⟨r, hr⟩ := ih (by omega)
      exact ⟨r ++ [(x.drop (m * 64)).take 64], by show secsOf x m ++ _ = _; rw [hr, List.append_assoc]⟩
theorem BytesAt.open {w : World} {p : Option Addr} {n c : Nat} {x : List UInt8} (h : BytesAt w (.slice p n c) x) (h0 : 0 < x.length) : ∃ g o, p = some ⟨g, o, none⟩ ∧ x.length ≤ c ∧ w.rangeAt g o (x.map bv) := by
  obtain ⟨p', c', e, -, hc, hr⟩ := h
  injection e with e1 e2 e3
  subst e1; subst e3
  obtain ⟨g, o, h1, h2⟩ := hr h0
  exact ⟨g, o, h1, hc, h2⟩
theorem BytesAt.lenN {w : World} {p : Option Addr} {n c : Nat} {x : List UInt8} (h : BytesAt w (.slice p n c) x) : n = x.length := by
  obtain ⟨p', c', e, -⟩ := h
  injection e
section
variable [Inhabited BaseN]
set_option maxRecDepth 100000 in
set_option maxHeartbeats 4000000 in
theorem writeSectors_any (D : Dk) (s M : Nat) (g o c : Nat) (x : List UInt8) (w : World) (h : Hid (DkAt D w)) (hx : x.length = M * 64) (hc : x.length ≤ c) (hs : s + M ≤ 10000) (hr : Hid (w.rangeAt g o (x.map bv))) (hg : Hid (¬ DTy w g)) :
    Calls Try.prog 53 #[.pointer (some ⟨D.b, 0, none⟩), .int .i64 s, .slice (some ⟨g, o, none⟩) x.length c] w fun e w' => e = .returned (.int .i64 (D.writes s (secsOf x M)).1) ∧ DkAt (D.writes s (secsOf x M)).2 w' ∧ KeepD w w' := by
  go_enter Try.func53, Try.ntmps53
  go_wp2_with fail
  go_loopw [1, 2] (fun iv sv wr => ∃ (k T R : Nat) (D' : Dk) (p : Option Addr) (d : Nat), k ≤ M ∧ Hid (T = s + k ∧ R = (M - k) * 64) ∧ iv = .int .i64 T ∧ sv = .slice p R d ∧ Hid (k < M → p = some ⟨g, o + k * 64, none⟩ ∧ R ≤ d) ∧ Hid (D.wrs s (secsOf x k) = (0, D')) ∧ Hid (DkAt D' wr) ∧ Hid (KeepD w wr)) (fun iv _ _ => s + M - (intOf iv).toNat)
  case atStart => exact ⟨0, s, x.length, D, some ⟨g, o, none⟩, c, by omega, Lib.hid ⟨rfl, by rw [hx]; simp⟩, rfl, rfl, Lib.hid (fun _ => ⟨by simp, by omega⟩), Lib.hid rfl, h, Lib.hid (KeepD.refl _)⟩
  case round =>
    obtain ⟨k, T, R, D', p, d, hk, hTR, rfl, rfl, hp, hD, hDk, hK⟩ := hrel
    have hb : D'.b = D.b := by have h1 := (Dk.wrs_same (secsOf x k) s D).1; rw [hD.out] at h1; exact h1
    by_cases hlk : k < M
    · obtain ⟨hp1, hp2⟩ := hp.out hlk
      subst hp1
      have hR := hTR.out.2
      have hT := hTR.out.1
      have hcl : Hid ((((x.drop (k * 64)).take 64)).length = 64) := Lib.hid (by simp; omega)
      have hch : Hid (BytesAt wr (.slice (some ⟨g, o + k * 64, none⟩) 64 d) ((x.drop (k * 64)).take 64)) := Lib.hid (BytesAt.of hcl.out (by omega) (fun j u hu => by
        rw [List.map_take, List.getElem?_take] at hu
        split at hu
        · rw [List.map_drop, List.getElem?_drop] at hu
          have h1 := (hK.out.rangeAt hr.out hg.out) (k * 64 + j) u hu
          rw [← Nat.add_assoc] at h1; exact h1
        · cases hu))
      have hW := Lib.hid (dk_write D' wr (T : Int) _ _ hDk.out hch.out (by rw [hcl.out]; omega))
      rw [hb] at hW
      obtain ⟨pr, hpr⟩ : ∃ pr, D'.write (T : Int) ((x.drop (k * 64)).take 64) = pr := ⟨_, rfl⟩
      rw [hpr] at hW
      have hwr : Hid (D.wrs s (secsOf x (k + 1)) = pr) := Lib.hid (by
        show D.wrs s (secsOf x k ++ [(x.drop (k * 64)).take 64]) = pr
        rw [Dk.wrs_snoc hD.out, secsOf_len, ← hT]; exact hpr)
      obtain ⟨ec, D2⟩ := pr
      have l1 : (0 : Int) < (R : Int) := by omega
      have l2 : (64 : Int) ≤ (d : Int) := by omega
      have l3 : (64 : Int) ≤ (R : Int) := by omega
      have hTl : T < 10000 := by omega
      have hRl : Hid (R = 64 + (M - (k + 1)) * 64) := Lib.hid (by omega)
      have hpd : Hid (R ≤ d) := Lib.hid hp2
      have hTs : Hid (T = s + k) := Lib.hid hT
      clear hpr hch hcl hD hp hR hT hTR hb hp2
      go_wp2_with fail
      refine hW.out.mono ?_
      rintro e w2 ⟨rfl, hD2, hK2⟩
      have hD2' := Lib.hid hD2
      have hK2' := Lib.hid (hK.out.trans hK2)
      clear hD2 hK2 hW hK
      by_cases h0 : ec = 0
      · subst h0
        obtain ⟨R2, hR2⟩ : ∃ R2, R - 64 = R2 := ⟨_, rfl⟩
        have hpn : Hid (k + 1 < M → (if d = 64 then some (⟨g, o + k * 64, none⟩ : Addr) else some (⟨g, o + k * 64 + 64, none⟩ : Addr)) = some ⟨g, o + (k + 1) * 64, none⟩ ∧ R2 ≤ d - 64) := Lib.hid (fun h => by
          have h1 := hRl.out
          have h2 := hpd.out
          refine ⟨?_, by omega⟩
          rw [if_neg (by omega), show o + (k + 1) * 64 = o + k * 64 + 64 by omega])
        have hTR2 : Hid (T + 1 = s + (k + 1) ∧ R2 = (M - (k + 1)) * 64) := Lib.hid ⟨by have h1 := hTs.out; omega, by have h1 := hRl.out; omega⟩
        obtain ⟨pp, hpp⟩ : ∃ pp, (if d = 64 then some (⟨g, o + k * 64, none⟩ : Addr) else some (⟨g, o + k * 64 + 64, none⟩ : Addr)) = pp := ⟨_, rfl⟩
        rw [hpp] at hpn
        have hR2' := Lib.hid hR2
        clear hRl hpd hr hg
        go_wp2_with fail
        exact ⟨⟨k + 1, T + 1, R2, D2, pp, d - 64, by omega, hTR2, by go_num, rfl, hpn, hwr, hD2', hK2'⟩, by have h1 := hTs.out; simp [intOf]; omega⟩
      · have e1 : (ec == 0) = false := by simpa using h0
        have hres : Hid (D.writes s (secsOf x M) = (ec, D2)) := Lib.hid (by
          obtain ⟨r, hr2⟩ := secsOf_more x (k + 1) M (by omega)
          have h1 := Dk.wrs_bad (r := r) hwr.out h0
          rw [← hr2] at h1
          unfold Dk.writes
          rw [h1, if_neg h0])
        clear hwr h0 hRl hpd
        go_wp2_with fail
        go_ret
        exact ⟨by rw [hres.out]; rfl, by rw [hres.out]; exact hD2'.out, hK2'.out⟩
    · have hkM : k = M := by omega
      have hR := hTR.out.2
      have hR0 : R = 0 := by rw [hR, hkM]; omega
      subst hR0
      have hres : Hid (D.writes s (secsOf x M) = D'.flush) := Lib.hid (by
        have h1 := hD.out
        rw [hkM] at h1
        unfold Dk.writes
        rw [h1, if_pos rfl])
      have hF := Lib.hid (dk_flush D' wr hDk.out)
      rw [hb] at hF
      clear hD hp hR hTR hkM hb
      go_wp2_with fail
      refine hF.out.mono ?_
      rintro e w2 ⟨rfl, hD2, hK2⟩
      have hD2' := Lib.hid hD2
      have hK2' := Lib.hid (hK.out.trans hK2)
      clear hD2 hK2 hF hK
      go_wp2_with fail
      go_ret
      exact ⟨by rw [hres.out]; rfl, by rw [hres.out]; exact hD2'.out, hK2'.out⟩
end
end Go.Proofs.Ytcmpbablmofofaa
