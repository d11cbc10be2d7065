/- All and clear. -/
import Derived.Test.YtcmpbablmofofaaJV
set_option linter.unusedVariables false
set_option linter.unusedSimpArgs false
namespace Go.Proofs.Ytcmpbablmofofaa
open Go.RowKit
section
variable [Inhabited BaseN]

set_option maxRecDepth 100000 in
set_option maxHeartbeats 4000000 in
theorem all_any (w0 : World) (jb gen half : Nat) (ev : Value) (L : List (List UInt8)) (ended : Bool) (D : Dk) (w : World) (hJ : Hid (JAt w0 w jb D gen half ev L ended)) (hL : L.length ≤ 1000000) (hl : Hid (∀ l ∈ L, 1 ≤ l.length ∧ l.length ≤ 1000000)) :
    Calls Try.prog 32 #[.pointer (some ⟨jb, 0, none⟩)] w (EntsRes L w) := by
  obtain ⟨pe, ce, rfl⟩ := hJ.out.ents.slice
  have c3 := hJ.out.head.c3
  have hC := Lib.hid (clones_any _ L w (Lib.hid hJ.out.ents.at) hL hl)
  go_enter Try.func32, Try.ntmps32
  go_wp2_with fail
  refine hC.out.mono ?_
  rintro e w2 ⟨p, c, rfl, hO, k2⟩
  go_wp2_with fail
  go_ret
  exact ⟨p, c, rfl, hO, k2⟩

end
theorem made_noughtsB (n : Nat) : madeCells #[Value.int .u8 0] (n * 1) = ((noughts n).map bv).toArray := by
  apply Array.ext
  · rw [size_madeCells]; simp [noughts_len]
  · intro i h1 h2
    simp [madeCells, noughts, Nat.mod_one]
    try rfl
/-- a make of bytes -/
theorem wp_make_z {P : Program} {w : World} {o : Oper} {a : Act} {K : Act → World → Prop} {Q : Exit → Act → World → Prop} (l c : Operand) (t : TypeId) (ho : o.op = .makeSlice t l c) (i : TypeInfo)
    (ht : P.underlying t = some (.slice 5)) (hi : P.info? 5 = some i) (hz : i.zero = some (.int .u8 0)) (hsize : i.size = 1) (hby : i.bytes = 1) (n : Nat) (C : Int) (hC : C = (n : Int)) (hl : a.eval l = .int .i64 C) (hc : a.eval c = .int .i64 C) (hn : n ≤ 1000000)
    (h : OwnB w (w.alloc (.cells ((noughts n).map bv).toArray 5)) (.slice (some ⟨w.heap.size, 0, none⟩) n n) (noughts n) → K (a.put o.dst (.slice (some ⟨w.heap.size, 0, none⟩) n n)) (w.alloc (.cells ((noughts n).map bv).toArray 5))) : Oper.wp P o a w K Q := by
  subst hC
  have hrun := run_make (P := P) w t 5 i (.int .u8 0) ht hi hz .i64 .i64 n n (by omega) (by omega) (by rw [hby]; omega) (by omega)
  rw [hsize] at hrun
  have e1 : (n : Int).toNat = n := by omega
  rw [e1, show (Value.cells (.int .u8 0)) = #[Value.int .u8 0] from rfl, made_noughtsB] at hrun
  unfold Oper.wp
  simp [execOp, ho, hl, hc, hrun, Result.andThen]
  have h2 := h (OwnB.new w w (Nat.le_refl _) (noughts n) (noughts_len n) (by unfold maxLen; omega))
  exact h2

section
variable [Inhabited BaseN]
/-- what clear answers, and what it makes of the disk -/
def clR (D : Dk) (gen half : Nat) : Int × Dk := if (leftR D gen half 0 0).2 ≠ 0 ∨ (leftR D gen half 0 0).1 = false then ((leftR D gen half 0 0).2, D) else D.writes (2 + half * hsz D) (secsOf (noughts 64) 1)
set_option maxRecDepth 100000 in
set_option maxHeartbeats 4000000 in
theorem clear_any (jb gen half : Nat) (ev : Value) (used : Nat) (ended : Bool) (D : Dk) (w : World) (hJ : Hid (JHead w jb D.b gen half ev used ended)) (hD : Hid (DkAt D w)) (h4 : 4 ≤ D.n) (hh : half ≤ 1) (hg : gen < 18446744073709551616) :
    Calls Try.prog 51 #[.pointer (some ⟨jb, 0, none⟩)] w fun e w' => e = .returned (.int .i64 (clR D gen half).1) ∧ DkAt (clR D gen half).2 w' ∧ KeepD w w' := by
  have hn := hD.out.n1.2
  obtain ⟨i0, hi0, hi1, hi2, hi3⟩ := info_parts u8InfoAll
  have hLf := Lib.hid (leftover_any jb gen half ev used ended D 0 0 w hJ hD h4 hh (by omega) hg (by omega))
  obtain ⟨lz, le, hlr⟩ : ∃ lz le, leftR D gen half 0 0 = (lz, le) := ⟨_, _, rfl⟩
  rw [hlr] at hLf
  have hcl : Hid (clR D gen half = if le ≠ 0 ∨ lz = false then (le, D) else D.writes (2 + half * hsz D) (secsOf (noughts 64) 1)) := Lib.hid (by unfold clR; rw [hlr])
  clear hlr
  obtain ⟨H, hH⟩ : ∃ H, hsz D = H := ⟨_, rfl⟩
  have hHl : H ≤ 511 := by rw [← hH]; unfold hsz; omega
  obtain ⟨S, hS⟩ : ∃ S, 2 + half * H = S := ⟨_, rfl⟩
  have hSl : S ≤ 600 := by
    have : half * H ≤ 1 * H := Nat.mul_le_mul_right H hh
    omega
  have hst := Lib.hid (fun W (k : Keeps (fun _ => False) w W) => by
    have h := halfStart_any _ D half hh W (hD.out.keep k).own hn h4
    rw [show 2 + half * ((D.n - 2) / 2) = S by rw [← hS, ← hH]; rfl] at h
    exact h)
  rw [hH, hS] at hcl
  clear hH hS
  go_enter Try.func51, Try.ntmps51
  go_wp2_with fail
  refine hLf.out.mono ?_
  rintro e w1 ⟨rfl, k1⟩
  clear hLf
  have k1' := Lib.hid k1
  clear k1
  by_cases hle : le = 0
  · subst hle
    cases lz with
    | false =>
      have hres : Hid (clR D gen half = (0, D)) := Lib.hid (by rw [hcl.out]; rfl)
      go_wp2_with fail
      go_ret
      exact ⟨by rw [hres.out]; rfl, by rw [hres.out]; exact hD.out.keep k1'.out, KeepD.of k1'.out⟩
    | true =>
      have hres : Hid (clR D gen half = D.writes S (secsOf (noughts 64) 1)) := Lib.hid (by rw [hcl.out, if_neg (by simp)])
      have hW := Lib.hid (fun W (k : Keeps (fun _ => False) w W) (g : Nat) (hO : OwnB w1 W (.slice (some ⟨g, 0, none⟩) 64 64) (noughts 64)) => writeSectors_any D S 1 g 0 64 (noughts 64) W (Lib.hid (hD.out.keep k)) (by rw [noughts_len]) (by rw [noughts_len]; omega) (by omega) (Lib.hid (by
            obtain ⟨g9, o9, e9, -, h9⟩ := hO.bytes.open (by rw [noughts_len]; omega)
            injection e9 with e9; injection e9 with e91 e92
            subst e91; subst e92; exact h9)) (Lib.hid (hO.noD rfl)))
      rw [noughts_len] at hW
      have c0 := hJ.out.c0
      have c2 := hJ.out.c2
      have hjl : Hid (jb < w.heap.size) := Lib.hid (lt_of_block hJ.out.hd)
      clear hcl
      go_upto_region 4 with fail
      refine wp_region_noPanic ?_
      refine wp_region_held_drew (S := (fun W => KeepD w W)) (by kernel_rfl) ((KeepD.of (k1'.out.trans (Keeps.refl _ _).drew))) (fun hHeld => ?_)
      refine tk 0 rfl ?_
      refine tk 1 rfl ?_
      refine tk 2 rfl ?_
      refine tkL 3 rfl (yieldsIf_load_cell (by rfl) 23 (.tmp 19) rfl jb 0 rfl _ (fun _ s => (hJ.out.keepD s).c0) (fun w s => load_dskp w _ _ _ s)) ?_
      refine tk 4 rfl ?_
      refine tk 5 rfl ?_
      refine tk 6 rfl ?_
      refine tkL 7 rfl (yieldsIf_load_cell (by rfl) 23 (.tmp 23) rfl jb 0 rfl _ (fun _ s => (hJ.out.keepD s).c0) (fun w s => load_dskp w _ _ _ s)) ?_
      refine tk 8 rfl ?_
      refine tk 9 rfl ?_
      refine tk 10 rfl ?_
      refine tk 11 rfl ?_
      refine tkL 12 rfl (yieldsIf_load_cell (by rfl) 3 (.tmp 28) rfl jb 2 rfl _ (fun _ s => (hJ.out.keepD s).c2) (fun w s => load_int w _ _ _ s)) ?_
      refine step2L 13 14 rfl rfl (by kernel_rfl) (fun K hK => ?_) (fun K hK => ?_)
      · skip
        have hk0 : Keeps (fun _ => False) w1 w1.drew := (Keeps.refl _ _).drew
        go_simp
        refine (hst.out _ (k1'.out.trans (hk0))).mono ?_
        rintro x w9 ⟨rfl, rfl⟩
        go_wp2_with fail
        refine hK.out _ _ hHeld (fun hHeld => ?_)
        clear hK K
        try simp only [Act.put, sA, sZ, sS]
        refine stepL 14 rfl (by kernel_rfl) (fun K hK => ?_)
        rw [if_pos (by rfl)]
        (refine wp_make_z (.const (.int .i64 64)) (.const (.int .i64 64)) 27 rfl i0 Try.underlying27 hi0 hi1 hi2 hi3 64 64 rfl rfl rfl (by omega) ?_; intro hO9; have hOz := Lib.hid (hO9.older hk0.size); clear hO9)
        refine hK.out _ _ ((hHeld.thenK ((Keeps.refl _ _).alloc _))) (fun hHeld => ?_)
        clear hK K
        try simp only [Act.put, sA, sZ, sS]
        refine stepL 15 rfl (by kernel_rfl) (fun K hK => ?_)
        go_simp
        (refine (hW.out _ (k1'.out.trans (hk0.alloc _)) _ hOz.out).mono ?_; rintro x w9 ⟨rfl, hD9, hk9⟩; have hD9' := Lib.hid hD9; have hk9' := Lib.hid ((KeepD.of (k1'.out.trans (hk0.alloc _))).trans hk9); clear hD9 hk9)
        go_wp2_with fail
        refine hK.out _ _ (hk9'.out) (fun hHeld => ?_)
        clear hK K
        try simp only [Act.put, sA, sZ, sS]
        refine tk 16 rfl ?_
        refine wpAnyH_done (by kernel_rfl) (NoPanic.normal ?_) _
        go_wp2_with fail
        go_ret
        exact ⟨by rw [hres.out]; rfl, by rw [hres.out]; exact hD9'.out, hk9'.out⟩
      · skip
        have hk0 : Keeps (fun _ => False) w1 w1.drew := (Keeps.refl _ _).drew
        rw [if_pos (by rfl)]
        refine wp_make_z (.const (.int .i64 64)) (.const (.int .i64 64)) 27 rfl i0 Try.underlying27 hi0 hi1 hi2 hi3 64 64 rfl rfl rfl (by omega) ?_; intro hO9; have hOz := Lib.hid (hO9.older hk0.size); clear hO9
        refine hK.out _ _ (hHeld.thenK ((Keeps.refl _ _).alloc _)) (fun hHeld => ?_)
        clear hK K
        try simp only [Act.put, sA, sZ, sS]
        refine stepL 13 rfl (by kernel_rfl) (fun K hK => ?_)
        go_simp
        (refine (hst.out _ (k1'.out.trans (hk0.alloc _))).mono ?_; rintro x w9 ⟨rfl, rfl⟩)
        go_wp2_with fail
        refine hK.out _ _ (hHeld) (fun hHeld => ?_)
        clear hK K
        try simp only [Act.put, sA, sZ, sS]
        refine stepL 15 rfl (by kernel_rfl) (fun K hK => ?_)
        go_simp
        (refine (hW.out _ (k1'.out.trans (hk0.alloc _)) _ hOz.out).mono ?_; rintro x w9 ⟨rfl, hD9, hk9⟩; have hD9' := Lib.hid hD9; have hk9' := Lib.hid ((KeepD.of (k1'.out.trans (hk0.alloc _))).trans hk9); clear hD9 hk9)
        go_wp2_with fail
        refine hK.out _ _ (hk9'.out) (fun hHeld => ?_)
        clear hK K
        try simp only [Act.put, sA, sZ, sS]
        refine tk 16 rfl ?_
        refine wpAnyH_done (by kernel_rfl) (NoPanic.normal ?_) _
        go_wp2_with fail
        go_ret
        exact ⟨by rw [hres.out]; rfl, by rw [hres.out]; exact hD9'.out, hk9'.out⟩
  · have hres : Hid (clR D gen half = (le, D)) := Lib.hid (by rw [hcl.out, if_pos (.inl hle)])
    go_wp2_with fail
    go_ret
    exact ⟨by rw [hres.out]; rfl, by rw [hres.out]; exact hD.out.keep k1'.out, KeepD.of k1'.out⟩
end
end Go.Proofs.Ytcmpbablmofofaa
