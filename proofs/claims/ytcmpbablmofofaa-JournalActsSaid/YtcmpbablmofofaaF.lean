/- The disk's Write, whole. -/
import Derived.Test.YtcmpbablmofofaaE
namespace Go.Proofs.Ytcmpbablmofofaa
open Go.RowKit

theorem fails_mem {w : World} {D : Dk} {v : Value} (h : DiskMem w D v) :
    Calls Try.prog 47 #[.pointer (some ⟨D.b, 0, none⟩)] w fun e w' => e = .returned (.bool D.fail.1) ∧ After D v w D.fail.2 w' ∧ Keeps (fun k => k = D.b) w w' := by
  by_cases h0 : D.left = 0
  · refine (fails_now D.b (.bool D.on) w (by rw [h.c3, h0]) h.c2 (h.fr 2)).mono ?_
    rintro e w' ⟨rfl, rfl⟩
    have e1 : D.fail = (true, { D with on := false }) := by simp [Dk.fail, h0]
    rw [e1]
    have hk : Keeps (fun k => k = D.b) w (w.setCell ⟨D.b, 2, none⟩ (.bool false)) := (Keeps.refl (fun k => k = D.b) w).setCell (p := ⟨D.b, 2, none⟩) (.inl rfl) _
    exact ⟨rfl, fail_mem h false D.left h.l1 h.l2 _ (by simpa using heap_put h.hd 2 (.bool false)) hk, hk⟩
  · by_cases h1 : 0 < D.left
    · refine (fails_later D.b D.left w h1 h.l2 h.c3 (h.fr 3)).mono ?_
      rintro e w' ⟨rfl, rfl⟩
      have e1 : D.fail = (false, { D with left := D.left - 1 }) := by simp [Dk.fail, h0, h1]
      rw [e1]
      have hk : Keeps (fun k => k = D.b) w (w.setCell ⟨D.b, 3, none⟩ (.int .i64 (D.left - 1))) := (Keeps.refl (fun k => k = D.b) w).setCell (p := ⟨D.b, 3, none⟩) (.inl rfl) _
      exact ⟨rfl, fail_mem h D.on (D.left - 1) (by omega) (by have := h.l2; omega) _ (by simpa using heap_put h.hd 3 (.int .i64 (D.left - 1))) hk, hk⟩
    · refine (fails_never D.b D.left w (by omega) h.c3).mono ?_
      rintro e w' ⟨rfl, rfl⟩
      have e1 : D.fail = (false, D) := by simp [Dk.fail, h0, h1]
      rw [e1]
      exact ⟨rfl, After.refl h, Keeps.refl _ _⟩

theorem After.trans {D D' D'' : Dk} {v : Value} {w w' w'' : World} (h : After D v w D' w') (h2 : ∀ v', DiskMem w' D' v' → After D' v' w' D'' w'') : After D v w D'' w'' := by
  obtain ⟨v', hm, hk, hf⟩ := h
  obtain ⟨v'', hm', hk', hf'⟩ := h2 v' hm
  exact ⟨v'', hm', hk.trans' hk' hf, fun k e => by
    rcases hf' k e with e | e
    · exact hf k e
    · exact .inr (Nat.le_trans hk.size e)⟩

theorem Wrote.after {b bs n i : Nat} {st la : Nat → List UInt8} {order : List Nat} {x : List UInt8} {l : Int} {v : Value} {w w' : World} {e : Ending} (h : Wrote b bs n i st la order x l v w e w') :
    e = .returned (.int .i64 0) ∧ After ⟨b, bs, n, st, la, order, true, l⟩ v w ((⟨b, bs, n, st, la, order, true, l⟩ : Dk).put i x) w' := by
  obtain ⟨rfl, v', hm, hk, hs⟩ := h
  refine ⟨rfl, v', hm, hk, ?_⟩
  rintro k (e | e | e)
  · exact .inl (.inl e)
  · exact .inl (.inr (.inl e))
  · exact (hs k e).imp (fun e => .inr (.inr e)) id

theorem write_nil (i : Int) (sv : Value) (w : World) : Calls Try.prog 14 #[.pointer none, .int .i64 i, sv] w fun e w' => e = .returned (.int .i64 1) ∧ w = w' := by
  go_enter Try.func14, Try.ntmps14
  go_wp2
  go_ret
  exact ⟨rfl, rfl⟩
theorem write_off (b : Nat) (i : Int) (sv : Value) (w : World) (h2 : w.cell? ⟨b, 2, none⟩ = some (.bool false)) :
    Calls Try.prog 14 #[.pointer (some ⟨b, 0, none⟩), .int .i64 i, sv] w fun e w' => e = .returned (.int .i64 2) ∧ w = w' := by
  go_enter Try.func14, Try.ntmps14
  go_wp2
  go_ret
  exact ⟨rfl, rfl⟩
theorem write_out (b n : Nat) (q : Option Addr) (i : Int) (p : Option Addr) (m c : Nat) (w : World) (hc : w.cell? ⟨b, 0, none⟩ = some (.slice q n n)) (h2 : w.cell? ⟨b, 2, none⟩ = some (.bool true)) (hi : Hid (¬ (0 ≤ i ∧ i < n))) :
    Calls Try.prog 14 #[.pointer (some ⟨b, 0, none⟩), .int .i64 i, .slice p m c] w fun e w' => e = .returned (.int .i64 1) ∧ w = w' := by
  go_enter Try.func14, Try.ntmps14
  go_wp2_with (go_at_call 46; refine (has_no b n _ i _ hi.out hc).mono ?_; rintro e w' ⟨rfl, rfl⟩)
  go_ret
  exact ⟨rfl, rfl⟩
theorem write_odd (b n : Nat) (q : Option Addr) (i : Int) (p : Option Addr) (m c : Nat) (w : World) (hc : w.cell? ⟨b, 0, none⟩ = some (.slice q n n)) (h2 : w.cell? ⟨b, 2, none⟩ = some (.bool true)) (hi : 0 ≤ i) (hi2 : i < n) (hm : ((m : Int) != 64) = true) :
    Calls Try.prog 14 #[.pointer (some ⟨b, 0, none⟩), .int .i64 i, .slice p m c] w fun e w' => e = .returned (.int .i64 1) ∧ w = w' := by
  go_enter Try.func14, Try.ntmps14
  go_wp2_with (go_at_call 46; refine (has_yes b n _ i _ hi hi2 hc).mono ?_; rintro e w' ⟨rfl, rfl⟩)
  go_ret
  exact ⟨rfl, rfl⟩
theorem write_fails (b n : Nat) (q : Option Addr) (i : Int) (p : Option Addr) (c : Nat) (w w1 : World) (hc : w.cell? ⟨b, 0, none⟩ = some (.slice q n n)) (h2 : w.cell? ⟨b, 2, none⟩ = some (.bool true)) (hi : 0 ≤ i) (hi2 : i < n)
    (hf : Hid (Calls Try.prog 47 #[.pointer (some ⟨b, 0, none⟩)] w fun e w' => e = .returned (.bool true) ∧ w1 = w')) :
    Calls Try.prog 14 #[.pointer (some ⟨b, 0, none⟩), .int .i64 i, .slice p 64 c] w fun e w' => e = .returned (.int .i64 2) ∧ w1 = w' := by
  go_enter Try.func14, Try.ntmps14
  go_wp2_with (first | (go_at_call 46; refine (has_yes b n _ i _ hi hi2 hc).mono ?_; rintro e w' ⟨rfl, rfl⟩) | (go_at_call 47; refine hf.out.mono ?_; rintro e w' ⟨rfl, rfl⟩))
  go_ret
  exact ⟨rfl, rfl⟩

theorem idx_keep {D : Dk} {w w' : World} {ad : Addr} {x : List UInt8} (hk : Keeps (fun k => k = D.b) w w') (hsrc : ∀ j u, (x.map bv)[j]? = some u → w.cell? (ad.add j) = some u) (hb : ad.block ≠ D.b) :
    ∀ j u, (x.map bv)[j]? = some u → w'.cell? (ad.add j) = some u := by
  intro j u hu
  have h1 := hsrc j u hu
  have hbk : (ad.add j).block = ad.block := by cases ad; unfold Addr.add; split <;> rfl
  rw [hk.cell (World.block_lt_of_cell? w _ h1) (by rw [hbk]; exact hb)]; exact h1

/-- Write, whatever comes -/
theorem write_any (D : Dk) (v : Value) (w : World) (i : Int) (sv : Value) (x : List UInt8) (h : DiskMem w D v) (hx : BytesAt w sv x) (hsep : ∀ k, sv.ownBlock = some k → k ≠ D.b) :
    Calls Try.prog 14 #[.pointer (some ⟨D.b, 0, none⟩), .int .i64 i, sv] w fun e w' => e = .returned (.int .i64 (D.write i x).1) ∧ After D v w (D.write i x).2 w' := by
  obtain ⟨p, c, rfl, -, -, hp⟩ := hx
  by_cases hon : D.on = false
  · have e1 : D.write i x = (2, D) := by simp [Dk.write, hon]
    rw [e1]
    refine (write_off D.b i _ w (by rw [h.c2, hon])).mono ?_
    rintro e w' ⟨rfl, rfl⟩
    exact ⟨rfl, After.refl h⟩
  have hon : D.on = true := by simpa using hon
  have h2 : w.cell? ⟨D.b, 2, none⟩ = some (.bool true) := by rw [h.c2, hon]
  by_cases hi : ¬ (0 ≤ i ∧ i < D.n)
  · have e1 : D.write i x = (1, D) := by unfold Dk.write; rw [if_neg (by simp [hon]), if_pos (.inl hi)]
    rw [e1]
    refine (write_out D.b D.n _ i p _ c w h.c0 h2 (Lib.hid hi)).mono ?_
    rintro e w' ⟨rfl, rfl⟩
    exact ⟨rfl, After.refl h⟩
  have hi : 0 ≤ i ∧ i < D.n := by simpa using hi
  by_cases h64 : x.length ≠ 64
  · have e1 : D.write i x = (1, D) := by simp [Dk.write, hon, h64]
    rw [e1]
    refine (write_odd D.b D.n _ i p _ c w h.c0 h2 hi.1 hi.2 (by rw [bne_iff_ne]; omega)).mono ?_
    rintro e w' ⟨rfl, rfl⟩
    exact ⟨rfl, After.refl h⟩
  have h64 : x.length = 64 := by simpa using h64
  obtain ⟨ab, ao, rfl, hsrc'⟩ := hp (by omega)
  have hb : (⟨ab, ao, none⟩ : Addr).block ≠ D.b := hsep ab rfl
  have hsrc : ∀ j u, (x.map bv)[j]? = some u → w.cell? ((⟨ab, ao, none⟩ : Addr).add j) = some u := fun j u hu => by rw [Addr.add_mid]; exact hsrc' j u hu
  obtain ⟨ad, had⟩ : ∃ ad : Addr, ad = ⟨ab, ao, none⟩ := ⟨_, rfl⟩
  rw [← had] at hb hsrc ⊢
  have hw : D.write i x = if D.fail.1 then (2, D.fail.2) else (0, D.fail.2.put i.toNat x) := by
    unfold Dk.write
    rw [if_neg (by simp [hon]), if_neg (by simp [h64]; omega)]
  obtain ⟨k, rfl⟩ := Int.eq_ofNat_of_zero_le hi.1
  have hk : k < D.n := by omega
  rw [h64]
  by_cases h0 : D.left = 0
  · have e1 : D.fail = (true, { D with on := false }) := by simp [Dk.fail, h0]
    rw [hw, e1]
    refine (write_fails D.b D.n _ k (some ad) c w _ h.c0 h2 hi.1 hi.2 (Lib.hid (fails_now D.b (.bool D.on) w (by rw [h.c3, h0]) h.c2 (h.fr 2)))).mono ?_
    rintro e w' ⟨rfl, rfl⟩
    exact ⟨rfl, fail_mem h false D.left h.l1 h.l2 _ (by simpa using heap_put h.hd 2 (.bool false)) ((Keeps.refl (fun k => k = D.b) w).setCell (p := ⟨D.b, 2, none⟩) (.inl rfl) _)⟩
  · have key : ∀ (l : Int) (w1 : World), Calls Try.prog 47 #[.pointer (some ⟨D.b, 0, none⟩)] w (fun e w' => e = .returned (.bool false) ∧ w1 = w') → D.fail = (false, { D with left := l }) →
        DiskMem w1 { D with left := l } v → Keeps (fun k => k = D.b) w w1 →
        Calls Try.prog 14 #[.pointer (some ⟨D.b, 0, none⟩), .int .i64 k, .slice (some ad) 64 c] w fun e w' => e = .returned (.int .i64 (D.write k x).1) ∧ After D v w (D.write k x).2 w' := by
      intro l w1 hf e1 hm hk1
      have hsrc1 := idx_keep hk1 hsrc hb
      rw [hw, e1]
      have hfin : ∀ e w', Wrote D.b D.bs D.n k D.st D.la D.order x l v w1 e w' → e = .returned (.int .i64 0) ∧ After D v w (({ D with left := l } : Dk).put k x) w' := by
        intro e w' hwr
        obtain ⟨he, v', hd, hkk, hft⟩ := hwr.after
        have hon' : (⟨D.b, D.bs, D.n, D.st, D.la, D.order, true, l⟩ : Dk) = { D with left := l } := by rw [← hon]
        rw [hon'] at hd hkk hft
        have hsz := hk1.size
        refine ⟨he, v', hd, (hk1.mono (G := foot D v) (fun k e => .inl (.inl e))).trans hkk, fun k e => ?_⟩
        rcases hft k e with e | e
        · exact .inl e
        · exact .inr (Nat.le_trans hsz e)
      have hm' : DiskMem w1 ⟨D.b, D.bs, D.n, D.st, D.la, D.order, true, l⟩ v := by rw [← hon]; exact hm
      by_cases hmem : k ∈ D.order
      · refine (put_old D.b D.bs D.n k D.st D.la D.order x l v ad c w w1 h.c0 h2 (Lib.hid hf) (Lib.hid hm') hk h.n2 hmem h64 hm'.c0 (Lib.hid hsrc1)).mono ?_
        intro e w' hwr; exact hfin e w' hwr
      · refine (put_new D.b D.bs D.n k D.st D.la D.order x l v ad c w w1 h.c0 h2 (Lib.hid hf) (Lib.hid hm') hk h.n2 (Lib.hid hmem) h64 hm'.c0 h.ne (fun e => h.ne e.symm) h.olen (Lib.hid hsrc1)).mono ?_
        intro e w' hwr; exact hfin e w' hwr
    by_cases h1 : 0 < D.left
    · have hk' : Keeps (fun k => k = D.b) w (w.setCell ⟨D.b, 3, none⟩ (.int .i64 (D.left - 1))) := (Keeps.refl (fun k => k = D.b) w).setCell (p := ⟨D.b, 3, none⟩) (.inl rfl) _
      refine key (D.left - 1) _ (fails_later D.b D.left w h1 h.l2 h.c3 (h.fr 3)) (by simp [Dk.fail, h0, h1]) ?_ hk'
      exact { h with
        hd := by simpa using heap_put h.hd 3 (.int .i64 (D.left - 1))
        secs := h.secs.keep hk' (fun e => h.ne e.symm)
        ow := hk'.ownsRow h.ow (fun k hk' e => h.vb (by rw [hk', e]))
        l1 := by show _ ≤ D.left - 1; omega
        l2 := by have := h.l2; show D.left - 1 ≤ _; omega }
    · exact key D.left w (fails_never D.b D.left w (by omega) h.c3) (by simp [Dk.fail, h0, h1]) h (Keeps.refl _ _)
end Go.Proofs.Ytcmpbablmofofaa
