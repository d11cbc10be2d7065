/- JournalSums: walked. -/
import Derived.Test.YtcmpbablmofofaaKC
import Derived.Deep.DeepCutAuto
set_option linter.unusedVariables false
set_option linter.unusedSimpArgs false
namespace Go.Proofs.Ytcmpbablmofofaa
open Go.RowKit
section
variable [Inhabited BaseN]

theorem keepNo {w w' : World} (k : KeepD w w') (h : w.heap.size ≤ base0) : Keeps (fun _ => False) w w' := Keeps.trans' (Keeps.refl (fun _ => False) w) k (fun i hi => .inr (Nat.le_trans h hi.1))
/-- of a base behind the first world -/
theorem keepNo2 {w w1 w2 : World} (h1 : Keeps (fun _ => False) w w1) (k : KeepD w1 w2) (h : w.heap.size ≤ base0) : Keeps (fun _ => False) w w2 := Keeps.trans' h1 k (fun i hi => .inr (Nat.le_trans h hi.1))
end
theorem BytesAt.upto {w : World} {p : Option Addr} {n c : Nat} {x : List UInt8} (h : BytesAt w (.slice p n c) x) (m : Nat) (hm : m ≤ x.length) : BytesAt w (.slice p m c) (x.take m) := by
  obtain ⟨p', c', e, h1, h2, h3⟩ := h
  injection e with e1 e2 e3
  subst e1; subst e3
  have hl : (x.take m).length = m := by rw [List.length_take]; omega
  refine ⟨p, c, by rw [hl], h1, by rw [hl]; omega, fun h0 => ?_⟩
  obtain ⟨g, o, e, hr⟩ := h3 (by omega)
  refine ⟨g, o, e, fun j u hu => hr j u ?_⟩
  rw [List.map_take, List.getElem?_take] at hu
  split at hu
  · exact hu
  · cases hu
theorem umod (n m : Int) (hm : 0 < m) (hm2 : m ≤ 1000000) : wrap64 ((IntKind.u64.wrap n).tmod m) = (((n % 18446744073709551616) % m).toNat : Int) ∧ (((n % 18446744073709551616) % m).toNat : Int) < m := by
  have h0 := Int.emod_nonneg n (b := 18446744073709551616) (by decide)
  have h1 : IntKind.u64.wrap n = n % 18446744073709551616 := by simp [IntKind.wrap, IntKind.signed, IntKind.bits]
  have h2 : (n % 18446744073709551616).tmod m = (n % 18446744073709551616) % m := Int.tmod_eq_emod_of_nonneg h0
  have h3 := Int.emod_nonneg (n % 18446744073709551616) (b := m) (by omega)
  have h4 := Int.emod_lt_of_pos (n % 18446744073709551616) hm
  rw [h1, h2]
  constructor
  · unfold wrap64
    omega
  · omega
section
variable [Inhabited BaseN]
set_option maxRecDepth 100000 in
set_option maxHeartbeats 8000000 in
theorem sums_walk (v : Value) (l : List UInt8) (n : Int) (w : World) (hb1 : base0 = w.heap.size) (hv : Hid (BytesAt w v l)) (hl : l.length ≤ 9223372036854775807) (n1 : -9223372036854775808 ≤ n) (n2 : n ≤ 9223372036854775807) :
    Calls Try.prog 6 #[v, .int .i64 n] w fun e w' => e = .returned (.bool true) ∧ Keeps (fun _ => False) w w' := by
  obtain ⟨p, c, rfl⟩ : ∃ p c, v = .slice p l.length c := by obtain ⟨p, c, x, -⟩ := hv.out; exact ⟨p, c, x⟩
  have hb0 := Lib.hid hb1
  clear hb1
  go_enter Try.func6, Try.ntmps6
  go_upto_region 2 with fail
  have hkk : ∃ K : Nat, wrap64 ((IntKind.u64.wrap n).tmod 8193) = (K : Int) ∧ K ≤ 8192 := by
    have h1 := umod n 8193 (by decide) (by decide)
    exact ⟨_, h1.1, by omega⟩
  obtain ⟨K, hK1, hK2⟩ := hkk
  rw [hK1]
  clear hK1 n1 n2
  obtain ⟨M, hM⟩ : ∃ M, min l.length 200 = M := ⟨_, rfl⟩
  have hMl : Hid (M ≤ l.length) := Lib.hid (by omega)
  have hM' := Lib.hid hM
  have hcc : Hid (l.length ≤ c) := Lib.hid (by obtain ⟨p', c', e, h1, h2, h3⟩ := hv.out; injection e with e1 e2 e3; omega)
  have hS := Lib.hid (fun W (k : Keeps (fun _ => False) w W) => stays_any W (by rw [hb0.out]; exact k.size))
  have hBm : Hid (∀ W, Keeps (fun _ => False) w W → BytesAt W (.slice p M c) (l.take M)) := Lib.hid (fun W k => (hv.out.keep k).upto M hMl.out)
  have hC1 := Lib.hid (fun W (k : Keeps (fun _ => False) w W) => crc_any (.slice p M c) (l.take M) (by rw [List.length_take]; omega) W (Lib.hid (hBm.out W k)))
  have hC2 := Lib.hid (fun W (k : Keeps (fun _ => False) w W) => rcrc_any (.slice p M c) (l.take M) (by rw [List.length_take]; omega) W (Lib.hid (hBm.out W k)))
  obtain ⟨cr, hcr⟩ : ∃ cr, crc (l.take M) = cr := ⟨_, rfl⟩
  rw [hcr] at hC1 hC2
  have hT1 := Lib.hid (fun W => takes_any K (by omega) W)
  have hT2 := Lib.hid (fun W => rtakes_any K (by omega) W)
  obtain ⟨ts, hts⟩ : ∃ ts, takes K = ts := ⟨_, rfl⟩
  rw [hts] at hT1 hT2
  have hMi : Hid ((if (200 : Int) < (l.length : Int) then (200 : Int) else (l.length : Int)) = (M : Int)) := Lib.hid (by split <;> omega)
  have l1 : (M : Int) ≤ (c : Int) := by have h1 := hMl.out; have h2 := hcc.out; omega
  clear hcr hts hBm hM
  refine wp_region_noPanic ?_
  refine wp_region_held_drew (S := (fun W => Keeps (fun _ => False) w W)) (by kernel_rfl) (((Keeps.refl _ _).drew)) (fun hHeld => ?_)
  refine stepL 0 rfl (by kernel_rfl) (fun K hK => ?_)
  go_simp
  (refine (hS.out _ hHeld).mono ?_; rintro e w9 ⟨rfl, hk9⟩)
  go_wp2_with fail
  refine hK.out _ _ ((keepNo2 hHeld hk9 (by rw [hb0.out]; exact Nat.le_refl _))) (fun hHeld => ?_)
  clear hK K
  try simp only [Act.put, sA, sZ, sS]
  refine tk 1 rfl ?_
  refine tk 2 rfl ?_
  refine tk 3 rfl ?_
  refine tk 4 rfl ?_
  refine tk 5 rfl ?_
  refine tk 8 rfl ?_
  refine tk 9 rfl ?_
  refine tk 10 rfl ?_
  refine tk 11 rfl ?_
  rw [hMi.out]
  refine tk 6 rfl ?_
  refine tk 12 rfl ?_
  refine stepL 7 rfl (by kernel_rfl) (fun K hK => ?_)
  go_simp
  (refine (hC1.out _ hHeld).mono ?_; rintro e w9 ⟨rfl, rfl⟩)
  go_wp2_with fail
  refine hK.out _ _ (hHeld) (fun hHeld => ?_)
  clear hK K
  try simp only [Act.put, sA, sZ, sS]
  refine stepL 13 rfl (by kernel_rfl) (fun K hK => ?_)
  go_simp
  (refine (hC2.out _ hHeld).mono ?_; rintro e w9 ⟨rfl, rfl⟩)
  go_wp2_with fail
  refine hK.out _ _ (hHeld) (fun hHeld => ?_)
  clear hK K
  try simp only [Act.put, sA, sZ, sS]
  refine tk 14 rfl ?_
  refine tk 15 rfl ?_
  refine tk 16 rfl ?_
  refine tk 17 rfl ?_
  refine tk 19 rfl ?_
  refine stepL 18 rfl (by kernel_rfl) (fun K hK => ?_)
  go_simp
  (refine (hT1.out _).mono ?_; rintro e w9 ⟨rfl, rfl⟩)
  go_wp2_with fail
  refine hK.out _ _ (hHeld) (fun hHeld => ?_)
  clear hK K
  try simp only [Act.put, sA, sZ, sS]
  refine stepL 20 rfl (by kernel_rfl) (fun K hK => ?_)
  go_simp
  (refine (hT2.out _).mono ?_; rintro e w9 ⟨rfl, rfl⟩)
  go_wp2_with fail
  refine hK.out _ _ (hHeld) (fun hHeld => ?_)
  clear hK K
  try simp only [Act.put, sA, sZ, sS]
  refine tk 21 rfl ?_
  refine tk 22 rfl ?_
  refine tk 23 rfl ?_
  refine wpAnyH_done (by kernel_rfl) (NoPanic.normal ?_) _
  have hK := Lib.hid hHeld
  clear hHeld
  go_wp2_with fail
  go_ret
  exact ⟨rfl, hK.out⟩
end
end Go.Proofs.Ytcmpbablmofofaa
