/- Open. -/
import Derived.Test.YtcmpbablmofofaaJX
set_option linter.unusedVariables false
set_option linter.unusedSimpArgs false
namespace Go.Proofs.Ytcmpbablmofofaa
open Go.RowKit
section
variable [Inhabited BaseN]

end
theorem usedOf_cons (l : List UInt8) (L : List (List UInt8)) : usedOf (l :: L) = takes l.length + usedOf L := by
  have key : ∀ (L : List (List UInt8)) (n : Nat), L.foldl (fun n l => n + takes l.length) n = n + L.foldl (fun n l => n + takes l.length) 0 := by
    intro L
    induction L with
    | nil => intro n; rfl
    | cons x r ih =>
      intro n
      rw [List.foldl_cons, List.foldl_cons, ih (n + _), ih (0 + _)]; omega
  show (l :: L).foldl (fun n l => n + takes l.length) 0 = _
  rw [List.foldl_cons, key]; unfold usedOf; omega
theorem framesOf_bulk : ∀ (f : Nat) (x : List UInt8) (gen place : Nat), usedOf (framesOf f x gen place) * 64 ≤ x.length ∧ (framesOf f x gen place).length ≤ usedOf (framesOf f x gen place) ∧ ∀ l ∈ framesOf f x gen place, 1 ≤ l.length ∧ l.length ≤ 8192 := by
  intro f
  induction f with
  | zero => intro x gen place; exact ⟨Nat.zero_le _, Nat.le_refl _, fun l h => by cases h⟩
  | succ f ih =>
    intro x gen place
    obtain ⟨r, hr⟩ : ∃ r, frameOf x gen place = r := ⟨_, rfl⟩
    cases r with
    | none =>
      have e : framesOf (f + 1) x gen place = [] := by unfold framesOf; rw [hr]
      rw [e]; exact ⟨Nat.zero_le _, Nat.le_refl _, fun l h => by cases h⟩
    | some l =>
      have e : framesOf (f + 1) x gen place = l :: framesOf f (x.drop (takes l.length * 64)) gen (place + 1) := by
        show (match frameOf x gen place with | none => [] | some l => l :: framesOf f (x.drop (takes l.length * 64)) gen (place + 1)) = _
        rw [hr]
      obtain ⟨h1, h2, h3, h4⟩ := frameOf_len hr
      obtain ⟨a, b, c⟩ := ih (x.drop (takes l.length * 64)) gen (place + 1)
      rw [e, usedOf_cons]
      rw [List.length_drop] at a
      have ht : 1 ≤ takes l.length := by unfold takes; omega
      refine ⟨by omega, by rw [List.length_cons]; omega, fun y hy => ?_⟩
      rcases List.mem_cons.1 hy with rfl | hy
      · exact ⟨h2, h3⟩
      · exact c y hy
theorem slotOf_ok {x : List UInt8} {i g h : Nat} (e : slotOf x i = some (g, h)) : h ≤ 1 ∧ g < 18446744073709551616 ∧ g % 2 = i ∧ x = slotB g h := by
  unfold slotOf at e
  simp only at e
  split at e
  case isTrue hc =>
    injection e with e
    injection e with e1 e2
    subst e1; subst e2
    have h1 := beVal_lt ((x.drop 4).take 8)
    have h2 : 256 ^ ((x.drop 4).take 8).length ≤ 256 ^ 8 := Nat.pow_le_pow_right (by omega) (by simp; omega)
    exact ⟨hc.1, Nat.lt_of_lt_of_le h1 (Nat.le_trans h2 (by decide)), hc.2.1, hc.2.2⟩
  case isFalse => cases e
theorem bestK_ok (D : Dk) : ∀ (k g h : Nat), bestK D k = some (g, h) → h ≤ 1 ∧ g < 18446744073709551616 := by
  intro k
  induction k with
  | zero => intro g h e; cases e
  | succ k ih =>
    intro g h e
    have e2 : pick (bestK D k) (slotOf (D.la k) k) = some (g, h) := e
    cases hs : slotOf (D.la k) k with
    | none =>
      rw [hs] at e2
      exact ih g h (by cases hb : bestK D k <;> rw [hb] at e2 <;> exact e2)
    | some s =>
      rw [hs] at e2
      obtain ⟨s1, s2⟩ := s
      have ok := slotOf_ok hs
      cases hb : bestK D k with
      | none => rw [hb] at e2; injection e2 with e2; injection e2 with e3 e4; subst e3; subst e4; exact ⟨ok.1, ok.2.1⟩
      | some b =>
        rw [hb] at e2
        have e3 : (if b.1 < s1 then some (s1, s2) else some b) = some (g, h) := e2
        split at e3
        · injection e3 with e3; injection e3 with e3 e4; subst e3; subst e4; exact ⟨ok.1, ok.2.1⟩
        · exact ih g h (by rw [hb]; exact e3)
theorem OwnB.cap {w0 w : World} {p : Option Addr} {n c : Nat} {x : List UInt8} (h : OwnB w0 w (.slice p n c) x) : c ≤ 9223372036854775807 := by
  rcases h.1.2 with ⟨e, -⟩ | ⟨g, cap, cur, e, -, -, -, hc, -⟩
  · injection e with _ _ e; omega
  · injection e with _ _ e
    subst e; unfold maxLen at hc; omega

section
variable [Inhabited BaseN]
theorem DkAt.keepF {F : Nat → Prop} {D : Dk} {w w' : World} (h : DkAt D w) (k : Keeps F w w') (hF : ∀ i, F i → ¬ DTy w i) : DkAt D w' := by
  obtain ⟨v, hm, hb⟩ := h
  exact ⟨v, hm.keep k (fun i hi hj => hF i hj (foot_ty hm hb i hi)), hb⟩
/-- what Open answers -/
def openE (D : Dk) : Int := if D.n < 4 then 1 else if D.on = false then 2 else if (bestK D 2).isNone then 3 else 0
def openG (D : Dk) : Nat := ((bestK D 2).getD (0, 0)).1
def openH (D : Dk) : Nat := ((bestK D 2).getD (0, 0)).2
def openL (D : Dk) : List (List UInt8) := framesOf (hsz D * 64 + 1) (halfB D (2 + openH D * hsz D) (hsz D)) (openG D) 0
set_option maxRecDepth 100000 in
set_option maxHeartbeats 4000000 in
theorem open_any (D : Dk) (w : World) (hD : Hid (DkAt D w)) : Calls Try.prog 27 #[.pointer (some ⟨D.b, 0, none⟩)] w (NewJ w (openE D, D) (openG D) (openH D) (openL D)) := by
  have hn := hD.out.n1.2
  have hsz := Lib.hid (own_size _ D w hD.out.own)
  go_enter Try.func27, Try.ntmps27
  go_wp2_with fail
  refine hsz.out.mono ?_
  rintro e w1 ⟨rfl, rfl⟩
  clear hsz
  by_cases h4 : D.n < 4
  · have hres : Hid (openE D = 1) := Lib.hid (by unfold openE; rw [if_pos h4])
    have l1 : (D.n : Int) < 4 := by omega
    clear h4
    go_wp2_with fail
    go_ret2
    refine ⟨KeepD.refl _, ?_⟩
    rw [hres.out]; exact ⟨rfl, hD.out⟩
  · have l1 : ¬ (D.n : Int) < 4 := by omega
    go_wp2_with fail
    cases hon : D.on with
    | false =>
      have hres : Hid (openE D = 2) := Lib.hid (by unfold openE; rw [if_neg h4, if_pos hon])
      refine (newest_off _ D w hD.out.own hon).mono ?_
      rintro e w1 ⟨rfl, k1⟩
      have k1' := Lib.hid k1
      clear k1
      go_wp2_with fail
      go_ret2
      have k2 := k1'.out.alloc (.cells #[.int .u64 0, .int .i64 0] 93)
      refine ⟨KeepD.of k2, ?_⟩
      rw [hres.out]; exact ⟨rfl, hD.out.keep k2⟩
    | true =>
      refine (newest_any _ D w hD.out.own (by omega) hon).mono ?_
      rintro e w1 ⟨rfl, k1⟩
      have k1' := Lib.hid k1
      clear k1
      have hok := bestK_ok D 2
      cases hb : bestK D 2 with
      | none =>
        have hres : Hid (openE D = 3) := Lib.hid (by unfold openE; rw [if_neg h4, if_neg (by rw [hon]; decide), if_pos (by rw [hb]; rfl)])
        have hnv : newV none = .tuple #[.agg #[.int .u64 0, .int .i64 0], .bool false, .int .i64 0] := rfl
        rw [hnv]
        clear hnv hok hb
        go_wp2_with fail
        go_ret2
        have k2 := k1'.out.alloc (.cells #[.int .u64 0, .int .i64 0] 93)
        refine ⟨KeepD.of k2, ?_⟩
        rw [hres.out]; exact ⟨rfl, hD.out.keep k2⟩
      | some s =>
        obtain ⟨g, h⟩ := s
        obtain ⟨hh, hg⟩ := hok g h hb
        have hres : Hid (openE D = 0) := Lib.hid (by unfold openE; rw [if_neg h4, if_neg (by rw [hon]; decide), if_neg (by rw [hb]; simp)])
        have hG : Hid (openG D = g) := Lib.hid (by unfold openG; rw [hb]; rfl)
        have hH : Hid (openH D = h) := Lib.hid (by unfold openH; rw [hb]; rfl)
        have hnv : newV (some (g, h)) = .tuple #[.agg #[.int .u64 g, .int .i64 h], .bool true, .int .i64 0] := rfl
        rw [hnv]
        clear hnv hok hb
        obtain ⟨sl, hsl⟩ : ∃ sl, Obj.cells #[Value.int .u64 g, Value.int .i64 h] 93 = sl := ⟨_, rfl⟩
        have k2 : Hid (Keeps (fun _ => False) w (w1.alloc (.cells #[.int .u64 g, .int .i64 h] 93))) := Lib.hid (k1'.out.alloc _)
        have hD2 := Lib.hid (hD.out.keep k2.out)
        have hRd := Lib.hid (readHalf_any D h (w1.alloc (.cells #[.int .u64 g, .int .i64 h] 93)) hD2 (by omega) hh hon)
        have hS2 : Hid ((w1.alloc (.cells #[.int .u64 g, .int .i64 h] 93)).rangeAt w1.heap.size 0 [.int .u64 g, .int .i64 h]) := Lib.hid (fun j u hu => by
          have h := cells_new (n := w1.heap.size) rfl [.int .u64 g, .int .i64 h] 93 j u hu
          rw [Addr.add_mid] at h; exact h)
        clear hsl sl
        go_wp2_with fail
        refine hRd.out.mono ?_
        rintro e w3 ⟨p, c, rfl, hO3, k23⟩
        obtain ⟨X, hX⟩ : ∃ X, halfB D (2 + h * hsz D) (hsz D) = X := ⟨_, rfl⟩
        have hXl : X.length = hsz D * 64 := by
          rw [← hX]
          refine halfB_len hD.out _ _ ?_
          have h1 : hsz D = (D.n - 2) / 2 := rfl
          have h2 : h * hsz D ≤ 1 * hsz D := Nat.mul_le_mul_right _ hh
          omega
        rw [hX, ← hXl] at hO3
        have hXs : X.length ≤ 40000 := by
          have h1 : hsz D = (D.n - 2) / 2 := rfl
          omega
        have hL : Hid (openL D = framesOf (X.length + 1) X g 0) := Lib.hid (by unfold openL; rw [hG.out, hH.out, hX, hXl])
        have hcp := hO3.cap
        have k3 := Lib.hid (k2.out.trans k23)
        have hS3 := Lib.hid (k23.rangeAt hS2.out id)
        have hO3' := Lib.hid (hO3.older k2.out.size)
        have hD3 := Lib.hid (hD2.out.keep k23)
        rw [← hXl]
        have hsw : w.heap.size ≤ w3.heap.size := k3.out.size
        clear hO3 k23 hRd hS2 hD2 k2 hX hXl
        generalize w1.heap.size = sb at hS3 ⊢
        clear k1'
        obtain ⟨W4, hW4⟩ : ∃ W, w3.alloc (.cells #[.pointer (some ⟨D.b, 0, none⟩), .int .u64 g, .int .i64 h, .slice none 0 0, .int .i64 0, .bool false] 97) = W := ⟨_, rfl⟩
        have k34 : Hid (Keeps (fun _ => False) w3 W4) := Lib.hid (by rw [← hW4]; exact (Keeps.refl _ _).alloc _)
        have c0' : (w3.alloc (.cells #[.pointer (some ⟨D.b, 0, none⟩), .int .u64 g, .int .i64 h, .slice none 0 0, .int .i64 0, .bool false] 97)).cell? ⟨sb, 0, none⟩ = some (.int .u64 g) := by
          rw [hW4]; exact (k34.out.rangeAt hS3.out id) 0 _ rfl
        have hRF := Lib.hid (readFrames_any _ X g hg W4 (Lib.hid ((hO3'.out.keep k34.out (fun _ _ f => f)).bytes)) (by omega) (fun p' n' c' e => by injection e with _ _ e; omega))
        rw [← hL.out] at hRF
        have hJ4 : Hid (JHead W4 w3.heap.size D.b g h (.slice none 0 0) 0 false) := Lib.hid (by rw [← hW4]; exact JHead.new w3 D.b g h)
        have hk4 := Lib.hid (k3.out.trans k34.out)
        have hD4 := Lib.hid (hD3.out.keep k34.out)
        have hjs : Hid (w3.heap.size < W4.heap.size) := Lib.hid (by rw [← hW4]; simp)
        have hW4' := Lib.hid hW4
        clear hW4
        go_wp2_with ((with_reducible refine at_slot 34 ?_); refine wpList_load_mid rfl 93 (.tmp 4) rfl sb 0 rfl [.int .u64 g, .int .i64 h] _ hS3.out Try.underlying93 rfl slotInfo ?_)
        rw [hW4'.out]
        clear c0' hW4' k34 hS3 hO3' k3 hD3
        refine hRF.out.mono ?_
        rintro e w5 ⟨pl, cl, rfl, hE5, k45⟩
        have hB := framesOf_bulk (X.length + 1) X g 0
        rw [← hL.out] at hB
        obtain ⟨b1, b2, b3⟩ := hB
        have hk5 := Lib.hid (hk4.out.trans k45)
        have hJ5 := Lib.hid (hJ4.out.keep k45 id)
        have hE5' := Lib.hid (hE5.older hk4.out.size)
        have hne : Hid (∀ i, (Value.slice pl (openL D).length cl).ownBlock = some i → i ≠ w3.heap.size) := Lib.hid (fun i e f => by
          obtain ⟨vs, e1, e2, -⟩ := hE5
          have h1 := e2.2.1 i e
          have := hjs.out
          omega)
        have hH5 := Lib.hid (hold_any w3.heap.size D.b g h (.slice none 0 0) 0 false _ (openL D) w5 hJ5 (Lib.hid hE5'.out.at) (by omega) (Lib.hid (fun l hl => by have := b3 l hl; omega)) hne)
        have hD5 := Lib.hid (hD4.out.keep k45)
        clear hE5 k45 hRF hJ4 hk4 hD4 hjs
        generalize w3.heap.size = jb at hH5 hne hJ5 hsw ⊢
        go_wp2_with fail
        refine hH5.out.mono ?_
        rintro e w6 ⟨rfl, hJ6, k56⟩
        have hJ6' := Lib.hid hJ6
        have hjl : jb < w5.heap.size := lt_of_block hJ5.out.hd
        have hE6 := Lib.hid (hE5'.out.keepF k56 (fun i hi ⟨cs, t, r, a, b⟩ => by
          subst hi
          rw [hJ5.out.hd] at a
          injection a with a
          injection a with _ a _
          subst a
          revert b; decide))
        have hk6 := Lib.hid (Keeps.trans' hk5.out k56 (fun i e => .inr (by omega)))
        have hD6 := Lib.hid (hD5.out.keepF k56 (fun i hi a => by subst hi; exact hJ5.out.noD a))
        clear hJ6 k56 hH5 hJ5 hE5' hk5 hD5 hne
        go_wp2_with fail
        go_ret2
        refine ⟨KeepD.of hk6.out, ?_⟩
        rw [hres.out, if_pos rfl, hG.out, hH.out]
        exact ⟨jb, _, rfl, hsw, hJ6'.out, hE6.out, hD6.out⟩
end
end Go.Proofs.Ytcmpbablmofofaa
