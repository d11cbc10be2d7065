/- PSa PS -/
import Derived.Test.YtmggbljkehclpaaP29
import Derived.Test.YtmggbljkehclpaaP30
set_option linter.unusedVariables false
set_option linter.unusedSimpArgs false
namespace Go.Proofs.Ytmggbljkehclpaa
open Go.RowKit
theorem g02 (w : World) (b o : Nat) (v : Value) (h : w.cell? ⟨b, o, none⟩ = some v) : (loadVar 26 ⟨b, o, none⟩).run Try.prog w = .ok v w := by simp [go_sem, h]
theorem c0m (w : World) (b o : Nat) (v : Value) (h : w.cell? ⟨b, o, none⟩ = some v) : (loadVar 27 ⟨b, o, none⟩).run Try.prog w = .ok v w := by simp [go_sem, h]
theorem c05 (a b c d x f : Int) (s : Value) (hs : s.oneCell' = true) : (#[.int .u32 a, .int .i64 b, .int .i64 c, .int .i64 d, .int .u32 x, .int .u32 f, s] : Array Value).all (·.oneCell') = true := by simp; exact ⟨rfl, rfl, rfl, rfl, rfl, rfl, hs⟩
theorem a0z : (Try.prog.info? 25).map (·.size) = some 7 := by kernel_rfl
def dP (p : a0m) : Bool := !decide (p.flags = 0) || !decide (p.seq = 0)
def f02 (p : a0m) : Bool :=
 if p.type = 1 then !dP p && (!decide (0 < p.heads.length) && (!decide (0 < p.keys.length) && (!decide (0 < p.lsas.length) && (decide (1 ≤ p.interval) && (decide (p.interval ≤ 65535) && (decide (1 ≤ p.dead) && (decide (p.dead ≤ 65535) && (decide (0 ≤ p.priority) && decide (p.priority ≤ 255)))))))))
 else if p.type = 2 then g0m p && (!decide (0 < p.keys.length) && (!decide (0 < p.lsas.length) && (decide (0 ≤ p.flags) && decide (p.flags ≤ 7))))
 else if p.type = 3 then g0m p && (!dP p && (!decide (0 < p.heads.length) && !decide (0 < p.lsas.length)))
 else if p.type = 4 then g0m p && (!dP p && (!decide (0 < p.heads.length) && !decide (0 < p.keys.length)))
 else if p.type = 5 then g0m p && (!dP p && (!decide (0 < p.keys.length) && !decide (0 < p.lsas.length)))
 else false
theorem q0h (p : a0m) (h1 : p.auth.any (· == 0) = false) (h2 : p.auth.length ≤ 8) (h3 : p.heads.any b0e = false) (h4 : p.heads.length ≤ 20) (h5 : p.keys.any b0n = false) (h6 : p.keys.length ≤ 20) (h7 : p.lsas.length ≤ 20) (h8 : p.nbs.length ≤ 20) : canP p = f02 p := by
 rw [j05, h1, h3, h5, decide_eq_true h2, decide_eq_true h4, decide_eq_true h6, decide_eq_true h7]
 unfold f02 e0k j03 a0e dP
 rw [decide_eq_true h8]
 cases hn : g0m p
 all_goals
  by_cases t1 : p.type = 1
  ·rw [if_pos t1, t1, Bool.eq_iff_iff]; simp
   constructor
   ·rintro ⟨⟨f, a, b, c⟩, ⟨⟨i, j⟩, ⟨k, l⟩, m, n⟩, -⟩; exact ⟨f, a, b, c, i, j, k, l, m, n⟩
   ·rintro ⟨f, a, b, c, i, j, k, l, m, n⟩; exact ⟨⟨f, a, b, c⟩, ⟨⟨i, j⟩, ⟨k, l⟩, m, n⟩, by omega⟩
  ·rw [if_neg t1]
   by_cases t2 : p.type = 2
   ·rw [if_pos t2, t2, Bool.eq_iff_iff]; simp; try exact ⟨fun h => ⟨h.1.1, h.1.2, h.2⟩, fun h => ⟨⟨h.1, h.2.1⟩, h.2.2⟩⟩
   ·rw [if_neg t2]
    by_cases t3 : p.type = 3
    ·rw [if_pos t3, t3, Bool.eq_iff_iff]; simp; try omega
    ·rw [if_neg t3]
     by_cases t4 : p.type = 4
     ·rw [if_pos t4, t4, Bool.eq_iff_iff]; simp; try omega
     ·rw [if_neg t4]
      by_cases t5 : p.type = 5
      ·rw [if_pos t5, t5, Bool.eq_iff_iff]; simp; try omega
      ·rw [if_neg t5]
       rw [show decide (1 ≤ p.type ∧ p.type ≤ 5) = false from decide_eq_false (by omega)]; rfl
theorem rightP_1 {p : a0m} (t : p.type = 1) : f02 p = (!dP p && (!decide (0 < p.heads.length) && (!decide (0 < p.keys.length) && (!decide (0 < p.lsas.length) && (decide (1 ≤ p.interval) && (decide (p.interval ≤ 65535) && (decide (1 ≤ p.dead) && (decide (p.dead ≤ 65535) && (decide (0 ≤ p.priority) && decide (p.priority ≤ 255)))))))))) := by unfold f02; rw [if_pos t]
theorem rightP_2 {p : a0m} (t : p.type = 2) : f02 p = (g0m p && (!decide (0 < p.keys.length) && (!decide (0 < p.lsas.length) && (decide (0 ≤ p.flags) && decide (p.flags ≤ 7))))) := by unfold f02; rw [if_neg (by omega), if_pos t]
theorem rightP_3 {p : a0m} (t : p.type = 3) : f02 p = (g0m p && (!dP p && (!decide (0 < p.heads.length) && !decide (0 < p.lsas.length)))) := by unfold f02; rw [if_neg (by omega), if_neg (by omega), if_pos t]
theorem rightP_4 {p : a0m} (t : p.type = 4) : f02 p = (g0m p && (!dP p && (!decide (0 < p.heads.length) && !decide (0 < p.keys.length)))) := by unfold f02; rw [if_neg (by omega), if_neg (by omega), if_neg (by omega), if_pos t]
theorem rightP_5 {p : a0m} (t : p.type = 5) : f02 p = (g0m p && (!dP p && (!decide (0 < p.keys.length) && !decide (0 < p.lsas.length)))) := by unfold f02; rw [if_neg (by omega), if_neg (by omega), if_neg (by omega), if_neg (by omega), if_pos t]
theorem rightP_o {p : a0m} (t1 : p.type ≠ 1) (t2 : p.type ≠ 2) (t3 : p.type ≠ 3) (t4 : p.type ≠ 4) (t5 : p.type ≠ 5) : f02 p = false := by unfold f02; rw [if_neg t1, if_neg t2, if_neg t3, if_neg t4, if_neg t5]
theorem g05 {α : Type} (f : α → Bool) (l : List α) (k : Nat) (x : α) (h : l[k]? = some x) (h1 : (l.take k).any f = false) (h2 : f x = false) : (l.take (k + 1)).any f = false := by
 obtain ⟨hk, rfl⟩ := List.getElem?_eq_some_iff.1 h
 rw [List.take_succ_eq_append_getElem hk, List.any_append, h1]; simp [h2]
theorem s02 {α : Type} (f : α → Bool) (l : List α) (k : Nat) (x : α) (h : l[k]? = some x) (h2 : f x = true) : l.any f = true :=
 List.any_eq_true.2 ⟨x, List.mem_of_getElem? h, h2⟩
theorem okP_bad (p : a0m) (h : p.auth.any (· == 0) = true ∨ p.heads.any b0e = true ∨ p.keys.any b0n = true ∨ p.lsas.all canB = false) : okP p = false := by
 unfold okP canP i0q n05
 rcases h with h | h | h | h <;> simp [h]
theorem m0b (h : c0p) : b0e h = decide (h.age < 0 ∨ h.age > 65535 ∨ h.len < 0 ∨ h.len > 65535 ∨ h.seq < -2147483648 ∨ h.seq > 2147483647 ∨ h.type < 0 ∨ h.type > 255) := by
 unfold b0e a0e
 rw [Bool.eq_iff_iff]
 simp
 omega
theorem n0o (h : KeyD) : b0n h = decide (h.type < 0 ∨ h.type > 255) := by
 unfold b0n a0e
 rw [Bool.eq_iff_iff]
 simp
theorem r0i (a l s t : Int) : a < 0 ∨ (¬ a < 0 ∧ a > 65535) ∨ (¬ a < 0 ∧ ¬ a > 65535 ∧ l < 0) ∨ (¬ a < 0 ∧ ¬ a > 65535 ∧ ¬ l < 0 ∧ l > 65535) ∨ (¬ a < 0 ∧ ¬ a > 65535 ∧ ¬ l < 0 ∧ ¬ l > 65535 ∧ s < -2147483648) ∨ (¬ a < 0 ∧ ¬ a > 65535 ∧ ¬ l < 0 ∧ ¬ l > 65535 ∧ ¬ s < -2147483648 ∧ s > 2147483647) ∨ (¬ a < 0 ∧ ¬ a > 65535 ∧ ¬ l < 0 ∧ ¬ l > 65535 ∧ ¬ s < -2147483648 ∧ ¬ s > 2147483647 ∧ t < 0) ∨ (¬ a < 0 ∧ ¬ a > 65535 ∧ ¬ l < 0 ∧ ¬ l > 65535 ∧ ¬ s < -2147483648 ∧ ¬ s > 2147483647 ∧ ¬ t < 0 ∧ t > 255) ∨ (¬ a < 0 ∧ ¬ a > 65535 ∧ ¬ l < 0 ∧ ¬ l > 65535 ∧ ¬ s < -2147483648 ∧ ¬ s > 2147483647 ∧ ¬ t < 0 ∧ ¬ t > 255) := by omega
theorem len_ways (a h k l n : Nat) : (8 < a ∨ 20 < h ∨ 20 < k ∨ 20 < l ∨ 20 < n) ∨ (a ≤ 8 ∧ h ≤ 20 ∧ k ≤ 20 ∧ l ≤ 20 ∧ n ≤ 20) := by omega
theorem r0d (a h k l n : Nat) (q : 8 < a ∨ 20 < h ∨ 20 < k ∨ 20 < l ∨ 20 < n) : 8 < a ∨ (a ≤ 8 ∧ 20 < h) ∨ (a ≤ 8 ∧ h ≤ 20 ∧ 20 < k) ∨ (a ≤ 8 ∧ h ≤ 20 ∧ k ≤ 20 ∧ 20 < l) ∨ (a ≤ 8 ∧ h ≤ 20 ∧ k ≤ 20 ∧ l ≤ 20 ∧ 20 < n) := by omega
theorem canP_len (p : a0m) (q : 8 < p.auth.length ∨ 20 < p.heads.length ∨ 20 < p.keys.length ∨ 20 < p.lsas.length ∨ 20 < p.nbs.length) : canP p = false := by
 rw [j05]
 rcases q with q | q | q | q | q
 ·rw [show decide (p.auth.length ≤ 8) = false from decide_eq_false (by omega)]; simp
 ·rw [show decide (p.heads.length ≤ 20) = false from decide_eq_false (by omega)]; simp
 ·rw [show decide (p.keys.length ≤ 20) = false from decide_eq_false (by omega)]; simp
 ·rw [show decide (p.lsas.length ≤ 20) = false from decide_eq_false (by omega)]; simp
 ·by_cases t : p.type = 1
  ·unfold j03
   rw [show decide (p.nbs.length ≤ 20) = false from decide_eq_false (by omega), decide_eq_true t]; simp
  ·have hn : g0m p = false := by
    unfold g0m
    rw [show decide (p.nbs.length = 0) = false from decide_eq_false (by omega)]; simp
   have ho : e0k p = true := by
    unfold e0k
    rw [hn, decide_eq_false t]; simp
   rw [ho]; simp
theorem f0u : (Try.prog.info? 73).map (·.size) = some 7 := by kernel_rfl
set_option maxRecDepth 100000 in
set_option maxHeartbeats 16000000 in
theorem m0t (p : a0m) (pn ph pk pl : Option Addr) (cn ch ck cl : Nat) (cs : List Value) (z : Bool) (w : World)
 (hcs : Hid (cs = a0w p (.slice pn p.nbs.length cn) (.slice ph p.heads.length ch) (.slice pk p.keys.length ck) (.slice pl p.lsas.length cl))) (hin : Hid (d0f w p (.slice pn p.nbs.length cn) (.slice ph p.heads.length ch) (.slice pk p.keys.length ck) (.slice pl p.lsas.length cl)))
 (hal : p.auth.length ≤ 9223372036854775807) (hhl : p.heads.length ≤ 9223372036854775807) (hkl : p.keys.length ≤ 9223372036854775807) (hll : p.lsas.length ≤ 9223372036854775807) (hlk : Hid (∀ l ∈ p.lsas, l.links.length ≤ 9223372036854775807 ∧ l.routers.length ≤ 9223372036854775807)) (hz : Hid (okP p = z)) :
 Calls Try.prog 24 #[.agg cs.toArray] w (fun e w' => e = .returned (.bool z) ∧ a03 (fun _ => False) w w') := by
 have hBx : Hid (c02 w.heap.size cs (w.alloc (.cells cs.toArray 30)) (w.alloc (.cells cs.toArray 30))) := Hi (c0s w cs _)
 have hwB : Hid (a03 (fun _ => False) w (w.alloc (.cells cs.toArray 30))) := Hi ((a03.refl _ _).alloc _)
 have hbad := okP_bad p
 rw [hz.out] at hbad
 have hbad' := Hi hbad
 obtain ⟨S, hS⟩ : ∃ S : ByteArray, S = ⟨p.auth.toArray⟩ := ⟨_, rfl⟩
 have hSl : S.size = p.auth.length := by rw [hS]; exact List.size_toArray ..
 have hSk : Hid (∀ k (h : k < S.size), p.auth[k]? = some S[k]) := Hi (fun k h => by
  subst hS
  rw [List.getElem?_eq_getElem (by rw [← hSl]; exact h)]; rfl)
 have l3 := Hi (show cs[3]? = some (.string S) by rw [hcs.out, hS]; rfl)
 have l13 := Hi (show cs[13]? = some (.slice ph p.heads.length ch) by rw [hcs.out]; rfl)
 have l14 := Hi (show cs[14]? = some (.slice pk p.keys.length ck) by rw [hcs.out]; rfl)
 have l15 := Hi (show cs[15]? = some (.slice pl p.lsas.length cl) by rw [hcs.out]; rfl)
 have l10 := Hi (show cs[10]? = some (.slice pn p.nbs.length cn) by rw [hcs.out]; rfl)
 obtain ⟨ms, hms, hrL, hins⟩ := hin.out.l
 have hms' := Hi hms; have hrL' := Hi hrL; have hins' := Hi hins
 have hml' : Hid (ms.length = p.lsas.length) := Hi (by rw [← hms, List.length_map])
 clear hms hrL hins
 obtain ⟨nb, hnb⟩ : ∃ n, n = p.nbs.length := ⟨_, rfl⟩
 rw [← hnb] at l10
 have hnb' := Hi hnb
 clear hnb
 obtain ⟨nh, hnh⟩ : ∃ n, n = p.heads.length := ⟨_, rfl⟩
 obtain ⟨nk, hnk⟩ : ∃ n, n = p.keys.length := ⟨_, rfl⟩
 obtain ⟨nl, hnl⟩ : ∃ n, n = p.lsas.length := ⟨_, rfl⟩
 rw [← hnh] at l13 hhl; rw [← hnk] at l14 hkl; rw [← hnl] at l15 hll hml'
 have hnh' := Hi hnh; have hnk' := Hi hnk; have hnl' := Hi hnl; have hSl' := Hi hSl
 rw [← hSl] at hal
 clear hbad hS hnh hnk hnl hSl
 go_enter Try.func24, Try.ntmps24
 go_upto_region 1 with fail
 generalize w.alloc (.cells cs.toArray 30) = wB at hBx hwB ⊢
 go_wp2_with fail
 go_loopw [3] (fun iv wr => ∃ k : Nat, k ≤ S.size ∧ iv = .int .i64 k ∧ Hid ((p.auth.take k).any (· == 0) = false) ∧ Hid (c02 w.heap.size cs wB wr)) (fun iv _ => S.size - (intOf iv).toNat)
 case atStart => exact ⟨0, by omega, rfl, Hi (by simp), hBx⟩
 case round =>
  obtain ⟨k, hk, rfl, hany, hB1⟩ := hrel
  have b3 := hB1.out.cell 3 _ l3.out
  by_cases hlk1 : k < S.size
  ·have hgk := hSk.out k hlk1
   by_cases hz0 : S[k] = 0
   ·have e0 : ((S[k].toNat : Int) == 0) = true := by rw [hz0]; rfl
    have hf : Hid (z = false) := Hi (hbad'.out (.inl (s02 _ _ k _ hgk (by rw [hz0]; rfl))))
    clear hgk hz0
    go_wp2_with fail
    go_ret
    exact ⟨by rw [hf.out]; rfl, hwB.out.trans hB1.out.k⟩
   ·have e0 : ((S[k].toNat : Int) == 0) = false := by
     rw [beq_eq_false_iff_ne]; intro h; apply hz0; apply UInt8.toNat_inj.mp; show S[k].toNat = 0; omega
    have hnext := Hi (g05 (· == (0 : UInt8)) p.auth k _ hgk hany.out (by simpa using hz0))
    clear hgk hz0
    go_wp2_with fail
    exact ⟨⟨k + 1, by omega, by go_num, hnext, hB1⟩, by simp [intOf]; omega⟩
  ·obtain rfl : S.size = k := by omega
   have hA : Hid (p.auth.any (· == 0) = false) := Hi (by have := hany.out; rw [hSl'.out, List.take_length] at this; exact this)
   clear hany
   go_wp2_with fail
   clear b3
   go_loopw [4] (fun iv wr => ∃ k : Nat, k ≤ nh ∧ iv = .int .i64 k ∧ Hid ((p.heads.take k).any b0e = false) ∧ Hid (c02 w.heap.size cs wB wr)) (fun iv _ => nh - (intOf iv).toNat)
   case atStart => exact ⟨0, by omega, rfl, Hi (by simp), hB1⟩
   case round =>
    obtain ⟨k, hk, rfl, hany, hB2⟩ := hrel
    have b13 := hB2.out.cell 13 _ l13.out
    by_cases hlk2 : k < nh
    ·obtain ⟨l, hll1⟩ : ∃ l, p.heads[k]? = some l := ⟨_, List.getElem?_eq_getElem (by rw [← hnh'.out]; exact hlk2)⟩
     obtain ⟨g, o, hpp, hrows⟩ := a0s.open (a0s.keep hin.out.h (hwB.out.trans hB2.out.k)) (by rw [← hnh'.out]; omega)
     subst hpp
     have hrow : Hid (wr.rangeAt g (o + k * 7) (Ha' l.age l.type l.id l.adv l.seq l.sum l.len)) := Hi (hrows k l hll1)
     have hwe := m0b l
     have hB3 := Hi (hB2.out.next ((a03.refl (fun _ => False) _).alloc (.cells (Ha l.age l.type l.id l.adv l.seq l.sum l.len) 73)))
     clear hrows
     rcases r0i l.age l.len l.seq l.type with q1 | ⟨q1, q2⟩ | ⟨q1, q2, q3⟩ | ⟨q1, q2, q3, q4⟩ | ⟨q1, q2, q3, q4, q5⟩ | ⟨q1, q2, q3, q4, q5, q6⟩ | ⟨q1, q2, q3, q4, q5, q6, q7⟩ | ⟨q1, q2, q3, q4, q5, q6, q7, q8⟩ | ⟨q1, q2, q3, q4, q5, q6, q7, q8⟩
     rotate_right
     ·have hnext := Hi (g05 b0e p.heads k l hll1 hany.out (by rw [hwe]; exact decide_eq_false (by omega)))
      clear hwe hll1
      go_wp2_with (first | ((with_reducible refine a0a 37 ?_); go_must (refine wpList_load_mid rfl 73 (.tmp 36) rfl g (o + k * 7) rfl _ _ hrow.out Try.underlying73 rfl f0u ?_)) | ((with_reducible refine a09 5 ?_); go_must (refine a07 rfl 73 (.tmp 5) (.tmp 37) rfl _ (Ha l.age l.type l.id l.adv l.seq l.sum l.len) rfl rfl f0u rfl (b0o _ _ _ _ _ _ _) ?_)))
      exact ⟨⟨k + 1, by omega, by go_num, hnext, hB3⟩, by simp [intOf]; omega⟩
     all_goals
      have hf : Hid (z = false) := Hi (hbad'.out (.inr (.inl (s02 b0e p.heads k l hll1 (by rw [hwe]; exact decide_eq_true (by omega))))))
      clear hwe hll1
      go_wp2_with (first | ((with_reducible refine a0a 37 ?_); go_must (refine wpList_load_mid rfl 73 (.tmp 36) rfl g (o + k * 7) rfl _ _ hrow.out Try.underlying73 rfl f0u ?_)) | ((with_reducible refine a09 5 ?_); go_must (refine a07 rfl 73 (.tmp 5) (.tmp 37) rfl _ (Ha l.age l.type l.id l.adv l.seq l.sum l.len) rfl rfl f0u rfl (b0o _ _ _ _ _ _ _) ?_)))
      go_ret
      exact ⟨by rw [hf.out]; rfl, hwB.out.trans hB3.out.k⟩
    ·obtain rfl : nh = k := by omega
     have hH : Hid (p.heads.any b0e = false) := Hi (by have := hany.out; rw [hnh'.out, List.take_length] at this; exact this)
     clear hany
     go_wp2_with fail
     clear b13
     go_loopw [6] (fun iv wr => ∃ k : Nat, k ≤ nk ∧ iv = .int .i64 k ∧ Hid ((p.keys.take k).any b0n = false) ∧ Hid (c02 w.heap.size cs wB wr)) (fun iv _ => nk - (intOf iv).toNat)
     case atStart => exact ⟨0, by omega, rfl, Hi (by simp), hB2⟩
     case round =>
      obtain ⟨k, hk, rfl, hany, hB4⟩ := hrel
      have b14 := hB4.out.cell 14 _ l14.out
      by_cases hlk3 : k < nk
      ·obtain ⟨l, hll1⟩ : ∃ l, p.keys[k]? = some l := ⟨_, List.getElem?_eq_getElem (by rw [← hnk'.out]; exact hlk3)⟩
       obtain ⟨g, o, hpp, hrows⟩ := a0s.open (a0s.keep hin.out.k (hwB.out.trans hB4.out.k)) (by rw [← hnk'.out]; omega)
       subst hpp
       have ct : wr.cell? ⟨g, o + k * 3, none⟩ = some (.int .i64 l.type) := by have := hrows k l hll1 0 _ rfl; rw [Nat.add_zero] at this; exact this
       have hwe := n0o l
       clear hrows
       rcases (show l.type < 0 ∨ (¬ l.type < 0 ∧ l.type > 255) ∨ (¬ l.type < 0 ∧ ¬ l.type > 255) by omega) with q1 | ⟨q1, q2⟩ | ⟨q1, q2⟩
       rotate_right
       ·have hnext := Hi (g05 b0n p.keys k l hll1 hany.out (by rw [hwe]; exact decide_eq_false (by omega)))
        clear hwe hll1
        go_wp2_with fail
        exact ⟨⟨k + 1, by omega, by go_num, hnext, hB4⟩, by simp [intOf]; omega⟩
       all_goals
        have hf : Hid (z = false) := Hi (hbad'.out (.inr (.inr (.inl (s02 b0n p.keys k l hll1 (by rw [hwe]; exact decide_eq_true (by omega)))))))
        clear hwe hll1
        go_wp2_with fail
        go_ret
        exact ⟨by rw [hf.out]; rfl, hwB.out.trans hB4.out.k⟩
      ·obtain rfl : nk = k := by omega
       have hK : Hid (p.keys.any b0n = false) := Hi (by have := hany.out; rw [hnk'.out, List.take_length] at this; exact this)
       clear hany
       go_wp2_with fail
       clear b14
       go_loopw [7] (fun iv wr => ∃ k : Nat, k ≤ nl ∧ iv = .int .i64 k ∧ Hid ((p.lsas.take k).all canB = true) ∧ Hid (c02 w.heap.size cs wB wr)) (fun iv _ => nl - (intOf iv).toNat)
       case atStart => exact ⟨0, by omega, rfl, Hi (by simp), hB4⟩
       case round =>
        obtain ⟨k, hk, rfl, hany, hB5⟩ := hrel
        have b15 := hB5.out.cell 15 _ l15.out
        by_cases hlk4 : k < nl
        ·obtain ⟨m, hll1⟩ : ∃ m, ms[k]? = some m := ⟨_, List.getElem?_eq_getElem (by rw [hml'.out]; exact hlk4)⟩
         have hin1 := (hins'.out m (List.mem_of_getElem? hll1)).keep (hwB.out.trans hB5.out.k)
         have hdl : p.lsas[k]? = some m.d := by rw [← hms'.out, List.getElem?_map, hll1]; rfl
         have hlens := hlk.out m.d (List.mem_of_getElem? hdl)
         obtain ⟨g, o, hpp, hrows⟩ := a0s.open (a0s.keep hrL'.out (hwB.out.trans hB5.out.k)) (by rw [hml'.out]; omega)
         subst hpp
         have hrow := hrows k m hll1
         have htk : p.lsas.take (k + 1) = p.lsas.take k ++ [m.d] := by
          have hk2 : k < p.lsas.length := (List.getElem?_eq_some_iff.1 hdl).1
          rw [List.take_succ_eq_append_getElem hk2]
          rw [List.getElem?_eq_getElem hk2] at hdl; injection hdl with hdl; rw [hdl]
         have htk' := Hi htk
         have hmem := Hi (List.mem_of_getElem? hdl)
         clear hrows hll1 hdl htk
         obtain ⟨⟨age, type, lid, adv, seq, links, mask, routers, cost⟩, p5, c5, p7, c7⟩ := m
         simp only at hlens
         obtain ⟨hle1, hle2⟩ := hlens
         have hrow : Hid (wr.rangeAt g (o + k * 9) (La' age type lid adv seq (.slice p5 links.length c5) mask (.slice p7 routers.length c7) cost)) := Hi hrow
         have hl5 := Hi hin1.1
         obtain ⟨y, hy⟩ : ∃ y, canB ⟨age, type, lid, adv, seq, links, mask, routers, cost⟩ = y := ⟨_, rfl⟩
         have hy' := Hi hy
         clear hy hin1
         go_wp2_with ((with_reducible refine a0a 112 ?_); go_must (refine wpList_load_mid rfl 80 (.tmp 111) rfl g (o + k * 9) rfl _ _ hrow.out Try.underlying80 rfl a0t ?_))
         refine (g0h age type seq cost lid adv mask links routers p5 p7 c5 c7 y _ hl5 hle1 hle2 hy').mono ?_
         rintro e w2 ⟨rfl, k2⟩
         have hB6 := Hi (hB5.out.next k2)
         clear k2
         cases y with
         | false =>
          have hf : Hid (z = false) := Hi (hbad'.out (.inr (.inr (.inr (by rw [List.all_eq_false]; exact ⟨_, hmem.out, by rw [hy'.out]; decide⟩)))))
          go_wp2_with fail
          go_ret
          exact ⟨by rw [hf.out]; rfl, hwB.out.trans hB6.out.k⟩
         | true =>
          have hnext : Hid ((p.lsas.take (k + 1)).all canB = true) := Hi (by rw [htk'.out, List.all_append, hany.out]; simp [hy'.out])
          go_wp2_with fail
          exact ⟨⟨k + 1, by omega, by go_num, hnext, hB6⟩, by simp [intOf]; omega⟩
        ·obtain rfl : nl = k := by omega
         have hLs : Hid (p.lsas.all canB = true) := Hi (by have := hany.out; rw [hnl'.out, List.take_length] at this; exact this)
         clear hany
         have c3 := hB5.out.cell 3 _ l3.out
         have c13 := hB5.out.cell 13 _ l13.out
         have c14 := hB5.out.cell 14 _ l14.out
         have c10 := hB5.out.cell 10 _ l10.out
         have hzc : Hid (canP p = z) := Hi (by rw [← hz.out]; unfold okP; rw [hLs.out, Bool.and_true])
         rcases len_ways S.size nh nk nl nb with q | ⟨q1, q2, q3, q4, q5⟩
         ·have hf : Hid (z = false) := Hi (by rw [← hzc.out]; exact canP_len p (by rw [← hSl'.out, ← hnh'.out, ← hnk'.out, ← hnl'.out, ← hnb'.out]; exact q))
          rcases r0d S.size nh nk nl nb q with q1 | ⟨q1, q2⟩ | ⟨q1, q2, q3⟩ | ⟨q1, q2, q3, q4⟩ | ⟨q1, q2, q3, q4, q5⟩
          all_goals
           clear q
           go_wp2_with fail
           go_ret
           exact ⟨by rw [hf.out]; rfl, hwB.out.trans hB5.out.k⟩
         ·skip
          have hzr : Hid (f02 p = z) := Hi (by rw [← hzc.out]; exact (q0h p hA.out (by rw [← hSl'.out]; exact q1) hH.out (by rw [← hnh'.out]; exact q2) hK.out (by rw [← hnk'.out]; exact q3) (by rw [← hnl'.out]; exact q4) (by rw [← hnb'.out]; exact q5)).symm)
          go_upto_region 24 with fail
          clear c3 c13 c14 c10 q1 q2 q3 q4 q5 b15 hK hH hA hLs hzc hbad' hSk
          obtain ⟨bn, hbn⟩ : ∃ b, g0m p = b := ⟨_, rfl⟩
          obtain ⟨bd, hbd⟩ : ∃ b, dP p = b := ⟨_, rfl⟩
          obtain ⟨bh, hbh⟩ : ∃ b, decide (0 < nh) = b := ⟨_, rfl⟩
          have hbhi : Hid (decide ((0 : Int) < (nh : Int)) = bh) := Hi (by rw [o08]; exact hbh)
          obtain ⟨bk, hbk⟩ : ∃ b, decide (0 < nk) = b := ⟨_, rfl⟩
          have hbki : Hid (decide ((0 : Int) < (nk : Int)) = bk) := Hi (by rw [o08]; exact hbk)
          obtain ⟨bl, hbl⟩ : ∃ b, decide (0 < nl) = b := ⟨_, rfl⟩
          have hbli : Hid (decide ((0 : Int) < (nl : Int)) = bl) := Hi (by rw [o08]; exact hbl)
          obtain ⟨fl, hfl⟩ : ∃ f, p.flags = f := ⟨_, rfl⟩
          obtain ⟨sq, hsq⟩ : ∃ f, p.seq = f := ⟨_, rfl⟩
          obtain ⟨iv, hiv⟩ : ∃ f, p.interval = f := ⟨_, rfl⟩
          obtain ⟨dd, hdd⟩ : ∃ f, p.dead = f := ⟨_, rfl⟩
          obtain ⟨pr, hpr⟩ : ∃ f, p.priority = f := ⟨_, rfl⟩
          obtain ⟨ty, hty⟩ : ∃ f, p.type = f := ⟨_, rfl⟩
          have l0 := Hi (show cs[0]? = some (.int .i64 ty) by rw [hcs.out, ← hty]; rfl)
          have l11 := Hi (show cs[11]? = some (.int .i64 fl) by rw [hcs.out, ← hfl]; rfl)
          have l12 := Hi (show cs[12]? = some (.int .u32 sq) by rw [hcs.out, ← hsq]; rfl)
          have lG : Hid ((cs.drop 4).take 7 = (Ga' p.mask iv dd pr p.dr p.bdr (.slice pn nb cn))) := Hi (by rw [hcs.out, ← hiv, ← hdd, ← hpr, hnb'.out]; rfl)
          have hz7 : Hid (none7 (decide (p.mask = 0)) (decide (iv = 0)) (decide (dd = 0)) (decide (pr = 0)) (decide (p.dr = 0)) (decide (p.bdr = 0)) (decide (nb = 0)) = bn) := Hi (by rw [← hiv, ← hdd, ← hpr, hnb'.out, ← hbn]; rfl)
          have hdd1 : Hid ((!decide (fl = 0) || !decide (sq = 0)) = bd) := Hi (by rw [← hfl, ← hsq]; exact hbd)
          have hbn' := Hi hbn; have hbd' := Hi hbd; have hbh' := Hi hbh; have hbk' := Hi hbk; have hbl' := Hi hbl
          have hfl' := Hi hfl; have hsq' := Hi hsq; have hiv' := Hi hiv; have hdd' := Hi hdd; have hpr' := Hi hpr; have hty' := Hi hty
          clear hbn hbd hbh hbk hbl hfl hsq hiv hdd hpr hty
          go_cut [8, 9, 10, 11, 12] (fun s8 s9 s10 s11 s12 wx => (s8 = .bool (!bn) ∧ s9 = .bool bd ∧ s10 = .bool bh ∧ s11 = .bool bk ∧ s12 = .bool bl) ∧ Hid (c02 w.heap.size cs wB wx))
          case first =>
           by_cases hf0 : fl = 0
           ·as_aux_lemma =>
            have e0 : (fl != 0) = false := by rw [hf0]; rfl
            have e1 : Hid (((sq : Int) != 0) = bd) := Hi (by rw [← hdd1.out, hf0, j0p (z := decide (sq = 0)) rfl]; simp)
            clear hf0
            refine wp_region_noPanic ?_
            refine wp_region_held_drew (S := (fun W => c02 w.heap.size cs wB W)) (by kernel_rfl) (hB5.out.next ((a03.refl _ _).drew)) (fun hHeld => ?_)
            refine tk 0 rfl ?_
            refine tkL 1 rfl (yieldsIf_load_mid (by rfl) 25 (.tmp 144) rfl w.heap.size 4 rfl (Ga' p.mask iv dd pr p.dr p.bdr (.slice pn nb cn)) _ (fun _ s => c0c s.r 4 7 lG.out) Try.underlying25 rfl a0z) ?_
            refine tk 3 rfl ?_
            refine tkL 4 rfl (a02 (by rfl) 3 (.tmp 147) rfl w.heap.size 11 rfl _ (fun _ s => s.cell 11 _ l11.out) (fun w s => a0j w _ _ _ s)) ?_
            refine tk 5 rfl ?_
            try rw [e0]
            refine tk 11 rfl ?_
            refine tkL 12 rfl (a02 (by rfl) 26 (.tmp 155) rfl w.heap.size 13 rfl _ (fun _ s => s.cell 13 _ l13.out) (fun w s => g02 w _ _ _ s)) ?_
            refine tk 13 rfl ?_
            refine tk 14 rfl ?_
            first | rw [hbh'.out] | rw [hbhi.out]
            refine tk 15 rfl ?_
            refine tkL 16 rfl (a02 (by rfl) 27 (.tmp 159) rfl w.heap.size 14 rfl _ (fun _ s => s.cell 14 _ l14.out) (fun w s => c0m w _ _ _ s)) ?_
            refine tk 17 rfl ?_
            refine tk 18 rfl ?_
            first | rw [hbk'.out] | rw [hbki.out]
            refine tk 19 rfl ?_
            refine tkL 20 rfl (a02 (by rfl) 28 (.tmp 163) rfl w.heap.size 15 rfl _ (fun _ s => s.cell 15 _ l15.out) (fun w s => e0m w _ _ _ s)) ?_
            refine tk 21 rfl ?_
            refine tk 22 rfl ?_
            first | rw [hbl'.out] | rw [hbli.out]
            refine sL 2 rfl fun K hK => ?_
            go_simp
            (refine (i08 p.mask p.dr p.bdr iv dd pr nb pn cn bn _ hz7).mono ?_; rintro e w2 ⟨rfl, k2⟩)
            go_wp2_with fail
            refine hK.out _ _ (hHeld.next k2) (fun hHeld => ?_)
            clear hK K
            try simp only [Act.put, sA, sZ, sS]
            refine tk 6 rfl ?_
            refine tk 7 rfl ?_
            refine tkL 8 rfl (a02 (by rfl) 22 (.tmp 151) rfl w.heap.size 12 rfl _ (fun _ s => s.cell 12 _ l12.out) (fun w s => b04 w _ _ _ s)) ?_
            refine tk 9 rfl ?_
            try rw [e1.out]
            refine tk 10 rfl ?_
            refine tk 23 rfl ?_
            refine tk 24 rfl ?_
            refine tk 25 rfl ?_
            refine tk 26 rfl ?_
            refine tk 27 rfl ?_
            refine wpAnyH_done (by kernel_rfl) (NoPanic.normal ?_) _
            have hHeld' := Hi hHeld
            clear hHeld
            go_wp2_with fail
            go_meet
            case rel => exact ⟨⟨rfl, rfl, rfl, rfl, rfl⟩, hHeld'⟩
           ·as_aux_lemma =>
            have e0 : (fl != 0) = true := by simp [hf0]
            obtain rfl : true = bd := by rw [← hdd1.out]; simp [hf0]
            clear hf0
            refine wp_region_noPanic ?_
            refine wp_region_held_drew (S := (fun W => c02 w.heap.size cs wB W)) (by kernel_rfl) (hB5.out.next ((a03.refl _ _).drew)) (fun hHeld => ?_)
            refine tk 0 rfl ?_
            refine tkL 1 rfl (yieldsIf_load_mid (by rfl) 25 (.tmp 144) rfl w.heap.size 4 rfl (Ga' p.mask iv dd pr p.dr p.bdr (.slice pn nb cn)) _ (fun _ s => c0c s.r 4 7 lG.out) Try.underlying25 rfl a0z) ?_
            refine tk 3 rfl ?_
            refine tkL 4 rfl (a02 (by rfl) 3 (.tmp 147) rfl w.heap.size 11 rfl _ (fun _ s => s.cell 11 _ l11.out) (fun w s => a0j w _ _ _ s)) ?_
            refine tk 5 rfl ?_
            try rw [e0]
            refine tk 11 rfl ?_
            refine tkL 12 rfl (a02 (by rfl) 26 (.tmp 155) rfl w.heap.size 13 rfl _ (fun _ s => s.cell 13 _ l13.out) (fun w s => g02 w _ _ _ s)) ?_
            refine tk 13 rfl ?_
            refine tk 14 rfl ?_
            first | rw [hbh'.out] | rw [hbhi.out]
            refine tk 15 rfl ?_
            refine tkL 16 rfl (a02 (by rfl) 27 (.tmp 159) rfl w.heap.size 14 rfl _ (fun _ s => s.cell 14 _ l14.out) (fun w s => c0m w _ _ _ s)) ?_
            refine tk 17 rfl ?_
            refine tk 18 rfl ?_
            first | rw [hbk'.out] | rw [hbki.out]
            refine tk 19 rfl ?_
            refine tkL 20 rfl (a02 (by rfl) 28 (.tmp 163) rfl w.heap.size 15 rfl _ (fun _ s => s.cell 15 _ l15.out) (fun w s => e0m w _ _ _ s)) ?_
            refine tk 21 rfl ?_
            refine tk 22 rfl ?_
            first | rw [hbl'.out] | rw [hbli.out]
            refine sL 2 rfl fun K hK => ?_
            go_simp
            (refine (i08 p.mask p.dr p.bdr iv dd pr nb pn cn bn _ hz7).mono ?_; rintro e w2 ⟨rfl, k2⟩)
            go_wp2_with fail
            refine hK.out _ _ (hHeld.next k2) (fun hHeld => ?_)
            clear hK K
            try simp only [Act.put, sA, sZ, sS]
            refine tk 6 rfl ?_
            refine tkS 7 rfl ?_
            refine tkS 8 rfl ?_
            refine tkS 9 rfl ?_
            refine tk 10 rfl ?_
            refine tk 23 rfl ?_
            refine tk 24 rfl ?_
            refine tk 25 rfl ?_
            refine tk 26 rfl ?_
            refine tk 27 rfl ?_
            refine wpAnyH_done (by kernel_rfl) (NoPanic.normal ?_) _
            have hHeld' := Hi hHeld
            clear hHeld
            go_wp2_with fail
            go_meet
            case rel => exact ⟨⟨rfl, rfl, rfl, rfl, rfl⟩, hHeld'⟩
          case rest =>
           obtain ⟨⟨rfl, rfl, rfl, rfl, rfl⟩, hB6⟩ := hcut
           have hk6 := Hi (hwB.out.trans hB6.out.k)
           have b0 := hB6.out.cell 0 _ l0.out
           have b11 := hB6.out.cell 11 _ l11.out
           have hG6 := Hi (c0c hB6.out.r 4 7 lG.out)
           by_cases t1 : ty = 1
           ·subst t1
            as_aux_lemma =>
             have hz1 := hzr.out
             rw [rightP_1 hty'.out, hbd'.out, ← hnh'.out, ← hnk'.out, ← hnl'.out, hbh'.out, hbk'.out, hbl'.out, hiv'.out, hdd'.out, hpr'.out] at hz1
             obtain ⟨x1, hx1⟩ : ∃ b, decide (1 ≤ iv) = b := ⟨_, rfl⟩
             obtain ⟨x2, hx2⟩ : ∃ b, decide (iv ≤ 65535) = b := ⟨_, rfl⟩
             obtain ⟨x3, hx3⟩ : ∃ b, decide (1 ≤ dd) = b := ⟨_, rfl⟩
             obtain ⟨x4, hx4⟩ : ∃ b, decide (dd ≤ 65535) = b := ⟨_, rfl⟩
             obtain ⟨x5, hx5⟩ : ∃ b, decide (0 ≤ pr) = b := ⟨_, rfl⟩
             obtain ⟨x6, hx6⟩ : ∃ b, decide (pr ≤ 255) = b := ⟨_, rfl⟩
             rw [hx1, hx2, hx3, hx4, hx5, hx6] at hz1
             have hz1 := Hi hz1
             cases bd with
             | true =>
              go_wp2_with (first | ((with_reducible refine a0a 172 ?_); go_must (refine wpList_load_mid rfl 25 (.tmp 171) rfl w.heap.size 4 rfl _ _ hG6.out Try.underlying25 rfl a0z ?_)) | ((with_reducible refine a09 13 ?_); go_must (refine a07 rfl 25 (.tmp 13) (.tmp 172) rfl _ (Ga p.mask iv dd pr p.dr p.bdr (.slice pn nb cn)) rfl rfl a0z rfl (c05 _ _ _ _ _ _ _ (a04 _ _ _)) ?_)))
              go_ret
              exact ⟨b06 (by rw [← hz1.out]; rfl), hk6.out.alloc _⟩
             | false =>
             cases bh with
             | true =>
              go_wp2_with (first | ((with_reducible refine a0a 172 ?_); go_must (refine wpList_load_mid rfl 25 (.tmp 171) rfl w.heap.size 4 rfl _ _ hG6.out Try.underlying25 rfl a0z ?_)) | ((with_reducible refine a09 13 ?_); go_must (refine a07 rfl 25 (.tmp 13) (.tmp 172) rfl _ (Ga p.mask iv dd pr p.dr p.bdr (.slice pn nb cn)) rfl rfl a0z rfl (c05 _ _ _ _ _ _ _ (a04 _ _ _)) ?_)))
              go_ret
              exact ⟨b06 (by rw [← hz1.out]; rfl), hk6.out.alloc _⟩
             | false =>
             cases bk with
             | true =>
              go_wp2_with (first | ((with_reducible refine a0a 172 ?_); go_must (refine wpList_load_mid rfl 25 (.tmp 171) rfl w.heap.size 4 rfl _ _ hG6.out Try.underlying25 rfl a0z ?_)) | ((with_reducible refine a09 13 ?_); go_must (refine a07 rfl 25 (.tmp 13) (.tmp 172) rfl _ (Ga p.mask iv dd pr p.dr p.bdr (.slice pn nb cn)) rfl rfl a0z rfl (c05 _ _ _ _ _ _ _ (a04 _ _ _)) ?_)))
              go_ret
              exact ⟨b06 (by rw [← hz1.out]; rfl), hk6.out.alloc _⟩
             | false =>
             cases bl with
             | true =>
              go_wp2_with (first | ((with_reducible refine a0a 172 ?_); go_must (refine wpList_load_mid rfl 25 (.tmp 171) rfl w.heap.size 4 rfl _ _ hG6.out Try.underlying25 rfl a0z ?_)) | ((with_reducible refine a09 13 ?_); go_must (refine a07 rfl 25 (.tmp 13) (.tmp 172) rfl _ (Ga p.mask iv dd pr p.dr p.bdr (.slice pn nb cn)) rfl rfl a0z rfl (c05 _ _ _ _ _ _ _ (a04 _ _ _)) ?_)))
              go_ret
              exact ⟨b06 (by rw [← hz1.out]; rfl), hk6.out.alloc _⟩
             | false =>
             cases x1 with
             | false =>
              have := of_decide_eq_false hx1; clear hx1
              go_wp2_with (first | ((with_reducible refine a0a 172 ?_); go_must (refine wpList_load_mid rfl 25 (.tmp 171) rfl w.heap.size 4 rfl _ _ hG6.out Try.underlying25 rfl a0z ?_)) | ((with_reducible refine a09 13 ?_); go_must (refine a07 rfl 25 (.tmp 13) (.tmp 172) rfl _ (Ga p.mask iv dd pr p.dr p.bdr (.slice pn nb cn)) rfl rfl a0z rfl (c05 _ _ _ _ _ _ _ (a04 _ _ _)) ?_)))
              go_ret
              exact ⟨b06 (by rw [← hz1.out]; rfl), hk6.out.alloc _⟩
             | true =>
             have := of_decide_eq_true hx1; clear hx1
             cases x2 with
             | false =>
              have := of_decide_eq_false hx2; clear hx2
              go_wp2_with (first | ((with_reducible refine a0a 172 ?_); go_must (refine wpList_load_mid rfl 25 (.tmp 171) rfl w.heap.size 4 rfl _ _ hG6.out Try.underlying25 rfl a0z ?_)) | ((with_reducible refine a09 13 ?_); go_must (refine a07 rfl 25 (.tmp 13) (.tmp 172) rfl _ (Ga p.mask iv dd pr p.dr p.bdr (.slice pn nb cn)) rfl rfl a0z rfl (c05 _ _ _ _ _ _ _ (a04 _ _ _)) ?_)))
              go_ret
              exact ⟨b06 (by rw [← hz1.out]; rfl), hk6.out.alloc _⟩
             | true =>
             have := of_decide_eq_true hx2; clear hx2
             cases x3 with
             | false =>
              have := of_decide_eq_false hx3; clear hx3
              go_wp2_with (first | ((with_reducible refine a0a 172 ?_); go_must (refine wpList_load_mid rfl 25 (.tmp 171) rfl w.heap.size 4 rfl _ _ hG6.out Try.underlying25 rfl a0z ?_)) | ((with_reducible refine a09 13 ?_); go_must (refine a07 rfl 25 (.tmp 13) (.tmp 172) rfl _ (Ga p.mask iv dd pr p.dr p.bdr (.slice pn nb cn)) rfl rfl a0z rfl (c05 _ _ _ _ _ _ _ (a04 _ _ _)) ?_)))
              go_ret
              exact ⟨b06 (by rw [← hz1.out]; rfl), hk6.out.alloc _⟩
             | true =>
             have := of_decide_eq_true hx3; clear hx3
             cases x4 with
             | false =>
              have := of_decide_eq_false hx4; clear hx4
              go_wp2_with (first | ((with_reducible refine a0a 172 ?_); go_must (refine wpList_load_mid rfl 25 (.tmp 171) rfl w.heap.size 4 rfl _ _ hG6.out Try.underlying25 rfl a0z ?_)) | ((with_reducible refine a09 13 ?_); go_must (refine a07 rfl 25 (.tmp 13) (.tmp 172) rfl _ (Ga p.mask iv dd pr p.dr p.bdr (.slice pn nb cn)) rfl rfl a0z rfl (c05 _ _ _ _ _ _ _ (a04 _ _ _)) ?_)))
              go_ret
              exact ⟨b06 (by rw [← hz1.out]; rfl), hk6.out.alloc _⟩
             | true =>
             have := of_decide_eq_true hx4; clear hx4
             cases x5 with
             | false =>
              have := of_decide_eq_false hx5; clear hx5
              go_wp2_with (first | ((with_reducible refine a0a 172 ?_); go_must (refine wpList_load_mid rfl 25 (.tmp 171) rfl w.heap.size 4 rfl _ _ hG6.out Try.underlying25 rfl a0z ?_)) | ((with_reducible refine a09 13 ?_); go_must (refine a07 rfl 25 (.tmp 13) (.tmp 172) rfl _ (Ga p.mask iv dd pr p.dr p.bdr (.slice pn nb cn)) rfl rfl a0z rfl (c05 _ _ _ _ _ _ _ (a04 _ _ _)) ?_)))
              go_ret
              exact ⟨b06 (by rw [← hz1.out]; rfl), hk6.out.alloc _⟩
             | true =>
             have := of_decide_eq_true hx5; clear hx5
             cases x6 with
             | false =>
              have := of_decide_eq_false hx6; clear hx6
              go_wp2_with (first | ((with_reducible refine a0a 172 ?_); go_must (refine wpList_load_mid rfl 25 (.tmp 171) rfl w.heap.size 4 rfl _ _ hG6.out Try.underlying25 rfl a0z ?_)) | ((with_reducible refine a09 13 ?_); go_must (refine a07 rfl 25 (.tmp 13) (.tmp 172) rfl _ (Ga p.mask iv dd pr p.dr p.bdr (.slice pn nb cn)) rfl rfl a0z rfl (c05 _ _ _ _ _ _ _ (a04 _ _ _)) ?_)))
              go_ret
              exact ⟨b06 (by rw [← hz1.out]; rfl), hk6.out.alloc _⟩
             | true =>
             have := of_decide_eq_true hx6; clear hx6
             go_wp2_with (first | ((with_reducible refine a0a 172 ?_); go_must (refine wpList_load_mid rfl 25 (.tmp 171) rfl w.heap.size 4 rfl _ _ hG6.out Try.underlying25 rfl a0z ?_)) | ((with_reducible refine a09 13 ?_); go_must (refine a07 rfl 25 (.tmp 13) (.tmp 172) rfl _ (Ga p.mask iv dd pr p.dr p.bdr (.slice pn nb cn)) rfl rfl a0z rfl (c05 _ _ _ _ _ _ _ (a04 _ _ _)) ?_)))
             go_ret
             exact ⟨b06 (by rw [← hz1.out]; rfl), hk6.out.alloc _⟩
           have n1 : (ty == 1) = false := by rw [beq_eq_false_iff_ne]; exact t1
           by_cases t2 : ty = 2
           ·subst t2
            as_aux_lemma =>
             have hz1 := hzr.out
             rw [rightP_2 hty'.out, hbn'.out, ← hnk'.out, ← hnl'.out, hbk'.out, hbl'.out, hfl'.out] at hz1
             obtain ⟨x1, hx1⟩ : ∃ b, decide (0 ≤ fl) = b := ⟨_, rfl⟩
             obtain ⟨x2, hx2⟩ : ∃ b, decide (fl ≤ 7) = b := ⟨_, rfl⟩
             rw [hx1, hx2] at hz1
             have hz1 := Hi hz1
             clear n1 t1
             cases bn with
             | false =>
              go_wp2_with fail
              go_ret
              exact ⟨b06 (by rw [← hz1.out]; rfl), hk6.out⟩
             | true =>
             cases bk with
             | true =>
              go_wp2_with fail
              go_ret
              exact ⟨b06 (by rw [← hz1.out]; rfl), hk6.out⟩
             | false =>
             cases bl with
             | true =>
              go_wp2_with fail
              go_ret
              exact ⟨b06 (by rw [← hz1.out]; rfl), hk6.out⟩
             | false =>
             cases x1 with
             | false =>
              have := of_decide_eq_false hx1; clear hx1
              go_wp2_with fail
              go_ret
              exact ⟨b06 (by rw [← hz1.out]; rfl), hk6.out⟩
             | true =>
             have := of_decide_eq_true hx1; clear hx1
             cases x2 with
             | false =>
              have := of_decide_eq_false hx2; clear hx2
              go_wp2_with fail
              go_ret
              exact ⟨b06 (by rw [← hz1.out]; rfl), hk6.out⟩
             | true =>
             have := of_decide_eq_true hx2; clear hx2
             go_wp2_with fail
             go_ret
             exact ⟨b06 (by rw [← hz1.out]; rfl), hk6.out⟩
           have n2 : (ty == 2) = false := by rw [beq_eq_false_iff_ne]; exact t2
           by_cases t3 : ty = 3
           ·subst t3
            as_aux_lemma =>
             have hz1 := hzr.out
             rw [rightP_3 hty'.out, hbn'.out, hbd'.out, ← hnh'.out, ← hnl'.out, hbh'.out, hbl'.out] at hz1
             have hz1 := Hi hz1
             clear n1 t1 n2 t2
             cases bn with
             | false =>
              go_wp2_with fail
              go_ret
              exact ⟨b06 (by rw [← hz1.out]; rfl), hk6.out⟩
             | true =>
             cases bd with
             | true =>
              go_wp2_with fail
              go_ret
              exact ⟨b06 (by rw [← hz1.out]; rfl), hk6.out⟩
             | false =>
             cases bh with
             | true =>
              go_wp2_with fail
              go_ret
              exact ⟨b06 (by rw [← hz1.out]; rfl), hk6.out⟩
             | false =>
             cases bl with
             | true =>
              go_wp2_with fail
              go_ret
              exact ⟨b06 (by rw [← hz1.out]; rfl), hk6.out⟩
             | false =>
             go_wp2_with fail
             go_ret
             exact ⟨b06 (by rw [← hz1.out]; rfl), hk6.out⟩
           have n3 : (ty == 3) = false := by rw [beq_eq_false_iff_ne]; exact t3
           by_cases t4 : ty = 4
           ·subst t4
            as_aux_lemma =>
             have hz1 := hzr.out
             rw [rightP_4 hty'.out, hbn'.out, hbd'.out, ← hnh'.out, ← hnk'.out, hbh'.out, hbk'.out] at hz1
             have hz1 := Hi hz1
             clear n1 t1 n2 t2 n3 t3
             cases bn with
             | false =>
              go_wp2_with fail
              go_ret
              exact ⟨b06 (by rw [← hz1.out]; rfl), hk6.out⟩
             | true =>
             cases bd with
             | true =>
              go_wp2_with fail
              go_ret
              exact ⟨b06 (by rw [← hz1.out]; rfl), hk6.out⟩
             | false =>
             cases bh with
             | true =>
              go_wp2_with fail
              go_ret
              exact ⟨b06 (by rw [← hz1.out]; rfl), hk6.out⟩
             | false =>
             cases bk with
             | true =>
              go_wp2_with fail
              go_ret
              exact ⟨b06 (by rw [← hz1.out]; rfl), hk6.out⟩
             | false =>
             go_wp2_with fail
             go_ret
             exact ⟨b06 (by rw [← hz1.out]; rfl), hk6.out⟩
           have n4 : (ty == 4) = false := by rw [beq_eq_false_iff_ne]; exact t4
           by_cases t5 : ty = 5
           ·subst t5
            as_aux_lemma =>
             have hz1 := hzr.out
             rw [rightP_5 hty'.out, hbn'.out, hbd'.out, ← hnk'.out, ← hnl'.out, hbk'.out, hbl'.out] at hz1
             have hz1 := Hi hz1
             clear n1 t1 n2 t2 n3 t3 n4 t4
             cases bn with
             | false =>
              go_wp2_with fail
              go_ret
              exact ⟨b06 (by rw [← hz1.out]; rfl), hk6.out⟩
             | true =>
             cases bd with
             | true =>
              go_wp2_with fail
              go_ret
              exact ⟨b06 (by rw [← hz1.out]; rfl), hk6.out⟩
             | false =>
             cases bk with
             | true =>
              go_wp2_with fail
              go_ret
              exact ⟨b06 (by rw [← hz1.out]; rfl), hk6.out⟩
             | false =>
             cases bl with
             | true =>
              go_wp2_with fail
              go_ret
              exact ⟨b06 (by rw [← hz1.out]; rfl), hk6.out⟩
             | false =>
             go_wp2_with fail
             go_ret
             exact ⟨b06 (by rw [← hz1.out]; rfl), hk6.out⟩
           have n5 : (ty == 5) = false := by rw [beq_eq_false_iff_ne]; exact t5
           have hz1 : Hid (false = z) := Hi (by rw [← hzr.out, rightP_o (by rw [hty'.out]; exact t1) (by rw [hty'.out]; exact t2) (by rw [hty'.out]; exact t3) (by rw [hty'.out]; exact t4) (by rw [hty'.out]; exact t5)])
           clear t1 t2 t3 t4 t5
           go_wp2_with fail
           go_ret
           exact ⟨b06 hz1.out, hk6.out⟩
end Go.Proofs.Ytmggbljkehclpaa
