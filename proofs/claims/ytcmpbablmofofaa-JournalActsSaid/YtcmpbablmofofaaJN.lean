/- leftover. -/
import Derived.Test.YtcmpbablmofofaaJM
set_option linter.unusedVariables false
set_option linter.unusedSimpArgs false
namespace Go.Proofs.Ytcmpbablmofofaa
open Go.RowKit
section
variable [Inhabited BaseN]

def hsz (D : Dk) : Nat := (D.n - 2) / 2
def leftR (D : Dk) (gen half at_ place : Nat) : Bool × Int :=
  if hsz D ≤ at_ then (false, 0) else if D.on = false then (false, 2) else ((D.la (2 + half * hsz D + at_)).take 13 == leadB gen place, 0)
end
theorem load_dskp (w : World) (b o : Nat) (v : Value) (h : w.cell? ⟨b, o, none⟩ = some v) : (loadVar 23 ⟨b, o, none⟩).run Try.prog w = .ok v w := by simp [go_sem, h]
theorem load_int (w : World) (b o : Nat) (v : Value) (h : w.cell? ⟨b, o, none⟩ = some v) : (loadVar 3 ⟨b, o, none⟩).run Try.prog w = .ok v w := by simp [go_sem, h]
theorem load_u64 (w : World) (b o : Nat) (v : Value) (h : w.cell? ⟨b, o, none⟩ = some v) : (loadVar 42 ⟨b, o, none⟩).run Try.prog w = .ok v w := by simp [go_sem, h]
theorem JHead.keep {w w' : World} {jb db gen half : Nat} {ev : Value} {used : Nat} {ended : Bool} (h : JHead w jb db gen half ev used ended) {F : Nat → Prop} (k : Keeps F w w') (hF : ¬ F jb) : JHead w' jb db gen half ev used ended :=
  ⟨by rw [k.block jb (lt_of_block h.hd) hF]; exact h.hd⟩
section
variable [Inhabited BaseN]
theorem JHead.noD {w : World} {jb db gen half : Nat} {ev : Value} {used : Nat} {ended : Bool} (h : JHead w jb db gen half ev used ended) : ¬ DTy w jb := fun ⟨_, cs, t, r, h1, h2⟩ => by
  rw [h.hd] at h1
  injection h1 with h1
  injection h1 with _ h1 _
  subst h1
  revert h2; decide
theorem JHead.keepD {w w' : World} {jb db gen half : Nat} {ev : Value} {used : Nat} {ended : Bool} (h : JHead w jb db gen half ev used ended) (k : KeepD w w') : JHead w' jb db gen half ev used ended := h.keep k h.noD
set_option maxRecDepth 100000 in
set_option maxHeartbeats 4000000 in
theorem leftover_any (jb gen half : Nat) (ev : Value) (used : Nat) (ended : Bool) (D : Dk) (at_ place : Nat) (w : World) (hJ : Hid (JHead w jb D.b gen half ev used ended)) (hD : Hid (DkAt D w)) (h4 : 4 ≤ D.n) (hh : half ≤ 1) (hat : at_ ≤ 10000) (hg : gen < 18446744073709551616) (hp : place < 4294967296) :
    Calls Try.prog 68 #[.pointer (some ⟨jb, 0, none⟩), .int .i64 at_, .int .i64 place] w fun e w' => e = .returned (.tuple #[.bool (leftR D gen half at_ place).1, .int .i64 (leftR D gen half at_ place).2]) ∧ Keeps (fun _ => False) w w' := by
  have hn := hD.out.n1.2
  have c0 := hJ.out.c0
  have hs := Lib.hid (halfSize_any _ D w hD.out.own hn h4)
  obtain ⟨H, hH⟩ : ∃ H, (D.n - 2) / 2 = H := ⟨_, rfl⟩
  rw [hH] at hs
  have hHl : H ≤ 511 := by omega
  have hH2 : 2 + 2 * H ≤ D.n := by omega
  have hHd : Hid (hsz D = H) := Lib.hid hH
  clear hH
  go_enter Try.func68, Try.ntmps68
  go_wp2_with fail
  refine hs.out.mono ?_
  rintro e w1 ⟨rfl, rfl⟩
  by_cases hge : H ≤ at_
  · have l1 : (H : Int) ≤ (at_ : Int) := by omega
    have hres : Hid (leftR D gen half at_ place = (false, 0)) := Lib.hid (by unfold leftR; rw [hHd.out, if_pos hge])
    go_wp2_with fail
    go_ret2
    exact ⟨by rw [hres.out]; rfl, Keeps.refl _ _⟩
  · have l1 : ¬ ((H : Int) ≤ (at_ : Int)) := by omega
    have hlt : at_ < H := by omega
    clear hs hge
    have c2 := hJ.out.c2
    have c1 := hJ.out.c1
    have hjl : Hid (jb < w.heap.size) := Lib.hid (lt_of_block hJ.out.hd)
    obtain ⟨I, hI⟩ : ∃ I, 2 + half * H + at_ = I := ⟨_, rfl⟩
    have hIl : I < D.n := by
      have : half * H ≤ 1 * H := Nat.mul_le_mul_right H hh
      omega
    have hz : Hid (2 + half * H + at_ = I) := Lib.hid hI
    have hon := D.on
    have e15 : IntKind.i64.wrap (((2 + half * H : Nat) : Int) + (at_ : Int)) = (I : Int) := by rw [IntWalk.i64_in _ (by omega)]; omega
    obtain ⟨S, hS⟩ : ∃ S, 2 + half * H = S := ⟨_, rfl⟩
    rw [hS] at e15
    have hSl : S + at_ = I := by omega
    have hstart : Hid (∀ W, Keeps (fun _ => False) w W → Calls Try.prog 69 #[.pointer (some ⟨D.b, 0, none⟩), .int .i64 half] W fun e w' => e = .returned (.int .i64 (S : Nat)) ∧ W = w') := Lib.hid (fun W k => by
      have h := halfStart_any _ D half hh W (hD.out.keep k).own hn h4
      have h2 : 2 + half * ((D.n - 2) / 2) = S := by rw [← hS, ← hHd.out]; rfl
      rw [h2] at h; exact h)
    clear hS hI
    go_upto_region 3 with fail
    refine wp_region_noPanic ?_
    refine wp_region_held_drew (S := (fun W => Keeps (fun _ => False) w W)) (by kernel_rfl) (((Keeps.refl _ _).drew)) (fun hHeld => ?_)
    refine tk 0 rfl ?_
    refine tk 1 rfl ?_
    refine tk 2 rfl ?_
    refine tkL 3 rfl (yieldsIf_load_cell (by rfl) 23 (.tmp 20) rfl jb 0 rfl _ (fun _ s => (s.cell (p := ⟨jb, 0, none⟩) hjl.out id).trans c0) (fun w s => load_dskp w _ _ _ s)) ?_
    refine tk 4 rfl ?_
    refine tk 5 rfl ?_
    refine tk 6 rfl ?_
    refine tkL 7 rfl (yieldsIf_load_cell (by rfl) 23 (.tmp 24) rfl jb 0 rfl _ (fun _ s => (s.cell (p := ⟨jb, 0, none⟩) hjl.out id).trans c0) (fun w s => load_dskp w _ _ _ s)) ?_
    refine tk 8 rfl ?_
    refine tk 9 rfl ?_
    refine tk 10 rfl ?_
    refine tk 11 rfl ?_
    refine tkL 12 rfl (yieldsIf_load_cell (by rfl) 3 (.tmp 29) rfl jb 2 rfl _ (fun _ s => (s.cell (p := ⟨jb, 2, none⟩) hjl.out id).trans c2) (fun w s => load_int w _ _ _ s)) ?_
    refine tk 14 rfl ?_
    refine stepL 13 rfl (by kernel_rfl) (fun K hK => ?_)
    go_simp
    (refine (hstart.out _ hHeld).mono ?_; rintro e w6 ⟨rfl, rfl⟩)
    go_wp2_with fail
    refine hK.out _ _ (hHeld) (fun hHeld => ?_)
    clear hK K
    try simp only [Act.put, sA, sZ, sS]
    refine tk 15 rfl ?_
    cases hon2 : D.on with
    | false =>
      have hrd : D.read (I : Int) = 2 := by unfold Dk.read; rw [hon2, if_pos rfl]
      have hres : Hid (leftR D gen half at_ place = (false, 2)) := Lib.hid (by unfold leftR; rw [hHd.out, if_neg (by omega), hon2, if_pos rfl])
      have hR := Lib.hid (fun W (k : Keeps (fun _ => False) w W) => own_read_bad _ D W (I : Int) (hD.out.keep k).own (by rw [hrd]; decide))
      rw [hrd] at hR
      clear hrd
      refine stepL 16 rfl (by kernel_rfl) (fun K hK => ?_)
      go_simp
      (refine (hR.out _ hHeld).mono ?_; rintro e w6 ⟨rfl, rfl⟩)
      go_wp2_with fail
      refine hK.out _ _ (hHeld) (fun hHeld => ?_)
      clear hK K
      try simp only [Act.put, sA, sZ, sS]
      refine tk 17 rfl ?_
      refine tk 18 rfl ?_
      refine tk 19 rfl ?_
      refine tk 20 rfl ?_
      refine tk 21 rfl ?_
      refine wpAnyH_done (by kernel_rfl) (NoPanic.normal ?_) _
      have hK := Lib.hid hHeld
      clear hHeld hR
      go_wp2_with fail
      go_ret2
      exact ⟨by rw [hres.out]; rfl, hK.out⟩
    | true =>
      have hR := Lib.hid (fun W (k : Keeps (fun _ => False) w W) => own_read_yes _ D W I (hD.out.keep k).own hon2 hIl)
      obtain ⟨L, hL⟩ : ∃ L, D.la I = L := ⟨_, rfl⟩
      have hLl : L.length = 64 := by
        obtain ⟨v, hm, -⟩ := hD.out
        rw [← hL]; exact hm.secs.lla I hIl
      have hres : Hid (leftR D gen half at_ place = (L.take 13 == leadB gen place, 0)) := Lib.hid (by unfold leftR; rw [hHd.out, if_neg (by omega), hon2, if_neg (by decide), hz.out, hL])
      unfold ReadOk at hR
      rw [hL] at hR
      clear hL
      refine stepL 16 rfl (by kernel_rfl) (fun K hK => ?_)
      go_simp
      (refine (hR.out _ hHeld).mono ?_; rintro e w6 ⟨rfl, rfl⟩)
      go_wp2_with fail
      refine hK.out _ _ ((hHeld.alloc _)) (fun hHeld => ?_)
      clear hK K
      try simp only [Act.put, sA, sZ, sS]
      refine tk 17 rfl ?_
      refine tk 18 rfl ?_
      refine tk 19 rfl ?_
      refine tk 20 rfl ?_
      refine tk 21 rfl ?_
      refine wpAnyH_done (by kernel_rfl) (NoPanic.normal ?_) _
      have hK := Lib.hid hHeld
      have hRg : Hid (((w.alloc (.cells (L.map bv).toArray 87)).drew).rangeAt w.heap.size 0 (L.map bv)) := Lib.hid (fun j u hu => by
        have h := cells_new (n := w.heap.size) rfl (L.map bv) 87 j u hu
        rw [Addr.add_mid] at h; exact h)
      have c1' := (hHeld.cell (p := ⟨jb, 1, none⟩) hjl.out id).trans c1
      generalize hgb : w.heap.size = ab at hRg ⊢
      generalize hgw : (w.alloc (.cells (L.map bv).toArray 87)).drew = W2 at hRg hK c1' ⊢
      clear hHeld hR hgw hgb c0 c1 c2
      go_wp2_with fail
      refine (lead_any gen place hg hp _).mono ?_
      rintro e w3 ⟨lb, rfl, hlb, hB3, hK3⟩
      have hP : Hid (Calls Try.prog 76 #[.slice (some ⟨ab, 0, none⟩) 64 64, .slice (some ⟨lb, 0, none⟩) (leadB gen place).length (leadB gen place).length] w3 fun e w' => e = .returned (.bool (L.take 13 == leadB gen place)) ∧ w3 = w') := Lib.hid (by
        have h := bytesHasPrefix_any ab 0 64 (.slice (some ⟨lb, 0, none⟩) (leadB gen place).length (leadB gen place).length) L (leadB gen place) w3 (hK3.rangeAt hRg.out id) (by omega) (BytesAt.of rfl (Nat.le_refl _) hB3.range) (by rw [leadB_len]; omega)
        rw [hLl] at h
        rw [leadB_len] at h ⊢
        exact h)
      have hK4 := Lib.hid (hK.out.trans hK3)
      clear hB3 hK3 hK hRg c1'
      go_wp2_with fail
      refine hP.out.mono ?_
      rintro e w4 ⟨rfl, rfl⟩
      go_wp2_with fail
      go_ret2
      exact ⟨by rw [hres.out]; rfl, hK4.out⟩
end
end Go.Proofs.Ytcmpbablmofofaa
