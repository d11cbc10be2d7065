/- elect.pass, walked. -/
import Derived.Test.YtdjbgjcniacgdaaELG
import Derived.Laws.StructEq
namespace Go.Proofs.Ytdjbgjcniacgdaa
open Go.RowKit

@[go_sem] theorem guardVote (op : BinOp) (x y : Operand) (xs ys : Array Value) (w : World) : (eqGuard op 26 x y (.agg xs) (.agg ys)).run Try.prog w = .ok () w := run_eqGuard_agg w op 26 x y xs ys (by kernel_rfl)
def firstV (ls : List VotD) (i : Nat) (l : VotD) : List VotD := l :: (ls.take i ++ ls.drop (i + 1))
def passFrom : Nat → Nat → Bool → List VotD → Bool × List VotD
  | 0, _, ch, ls => (ch, ls)
  | m + 1, i, ch, ls => match ls[i]? with
    | none => (ch, ls)
    | some l => passFrom m (i + 1) (ch || !(decide (electX (firstV ls i l) = l.dr) && decide (electY (firstV ls i l) = l.bdr))) (ls.set i (newV l (electX (firstV ls i l)) (electY (firstV ls i l))))
theorem passFrom_step {n k : Nat} {ch : Bool} {ls : List VotD} {l : VotD} {R : Bool × List VotD} (hk : k < n) (hl : ls[k]? = some l) (h : passFrom (n - k) k ch ls = R) :
    passFrom (n - (k + 1)) (k + 1) (ch || !(decide (electX (firstV ls k l) = l.dr) && decide (electY (firstV ls k l) = l.bdr))) (ls.set k (newV l (electX (firstV ls k l)) (electY (firstV ls k l)))) = R := by
  rw [show n - k = (n - (k + 1)) + 1 by omega] at h
  rw [← h]
  conv => rhs; rw [passFrom, hl]
theorem firstV_len {ls : List VotD} {i n : Nat} {l : VotD} (hn : ls.length = n) (hi : i < n) : (ls.take i ++ ls.drop (i + 1)).length + 1 = n := by
  rw [List.length_append, List.length_take, List.length_drop, hn]; omega
set_option maxRecDepth 100000 in
set_option maxHeartbeats 2000000 in
theorem elPass_any (G n c : Nat) (ls ls' : List VotD) (z : Bool) (hn : Hid (ls.length = n)) (hl : n ≤ 1000000) (hc : n ≤ c) (hc2 : c ≤ 9223372036854775807) (w0 w : World) (h : Hid (OwnV w0 w (.slice (some ⟨G, 0, none⟩) n c) ls)) (hz : Hid (passFrom n 0 false ls = (z, ls'))) :
    Calls Try.prog 7 #[.slice (some ⟨G, 0, none⟩) n c] w (fun e w' => e = .returned (.bool z) ∧ OwnV w0 w' (.slice (some ⟨G, 0, none⟩) n c) ls' ∧ Keeps (fun k => k = G) w w') := by
  go_enter Try.func7, Try.ntmps7
  go_wp2_with fail
  go_loopw [3, 8] (fun cv iv wr => ∃ (k : Nat) (ch : Bool) (l1 : List VotD), k ≤ n ∧ cv = .bool ch ∧ iv = .int .i64 k ∧ Hid (passFrom (n - k) k ch l1 = (z, ls')) ∧ Hid (l1.length = n) ∧ Hid (OwnV w0 wr (.slice (some ⟨G, 0, none⟩) n c) l1) ∧ Hid (Keeps (fun k => k = G) w wr)) (fun _ iv _ => n - (intOf iv).toNat)
  case atStart => exact ⟨0, false, ls, by omega, rfl, rfl, hz, hn, h, Lib.hid (Keeps.refl _ _)⟩
  case round =>
    obtain ⟨k, ch, l1, hk, rfl, rfl, hp, hn1, hown, hkr⟩ := hrel
    by_cases hlk : k < n
    · obtain ⟨l, hll⟩ : ∃ l, l1[k]? = some l := ⟨_, List.getElem?_eq_getElem (by rw [hn1.out]; exact hlk)⟩
      have hki : (k : Int) < n := by omega
      have hV := hown.out.at
      obtain ⟨g2, c2, e2, hg0, hgl, hgc, hcell⟩ := hown.out.block (by rw [hn1.out]; omega)
      injection e2 with e2 e3 e4
      injection e2 with e2; injection e2 with e2
      subst e2; subst e4; clear e3
      have hrow : Hid (wr.rangeAt G (k * 5) [.int .u32 l.id, .int .u32 l.addr, .int .i64 l.prio, .int .u32 l.dr, .int .u32 l.bdr]) := Lib.hid (by
        obtain ⟨p, c', e, -, -, hr⟩ := hV
        obtain ⟨g, o, ep, hr⟩ := hr (by rw [hn1.out]; omega)
        injection e with e1 e2 e3
        rw [← e1] at ep
        injection ep with ep; injection ep with ep1 ep2
        subst ep1; subst ep2
        have := hr k l hll
        rw [Nat.zero_add] at this; exact this)
      have hneG : Hid (G ≠ wr.heap.size) := Lib.hid (by omega)
      obtain ⟨x, hx⟩ : ∃ x, electX (firstV l1 k l) = x := ⟨_, rfl⟩
      obtain ⟨y, hy⟩ : ∃ y, electY (firstV l1 k l) = y := ⟨_, rfl⟩
      have hp2 := passFrom_step hlk hll hp.out
      rw [hx, hy] at hp2
      have hp2' := Lib.hid hp2
      have hx' := Lib.hid hx; have hy' := Lib.hid hy; have hll' := Lib.hid hll
      have hflen := Lib.hid (firstV_len (l := l) hn1.out hlk)
      have hcell' : Hid (∀ k, k < n * 5 → (∃ u, wr.cell? ⟨G, k, none⟩ = some u) ∧ wr.frozen? ⟨G, k, none⟩ = false) := Lib.hid (by rw [← hn1.out]; exact hcell)
      have hgl' := Lib.hid hgl
      have k1 : Hid (Keeps (fun _ => False) wr (wr.alloc (.cells #[.int .u32 l.id, .int .u32 l.addr, .int .i64 l.prio, .int .u32 l.dr, .int .u32 l.bdr] 26))) := Lib.hid ((Keeps.refl _ _).alloc _)
      have hB1 : Hid (BlkAt (wr.alloc (.cells #[.int .u32 l.id, .int .u32 l.addr, .int .i64 l.prio, .int .u32 l.dr, .int .u32 l.bdr] 26)) wr.heap.size 26 (voteVals l)) := Lib.hid (BlkAt.new wr 26 (voteVals l))
      have hV1 : Hid (VotersAt (wr.alloc (.cells #[.int .u32 l.id, .int .u32 l.addr, .int .i64 l.prio, .int .u32 l.dr, .int .u32 l.bdr] 26)) (.slice (some ⟨G, 0, none⟩) n c) l1) := Lib.hid (hV.keep k1.out)
      clear hV hx hy hp hp2 hll hcell hg0 hgl hgc
      go_wp2_with (first | ((with_reducible refine at_slot 14 ?_); refine wpList_load_mid rfl 26 (.tmp 13) rfl G (k * 5) rfl _ _ hrow.out Try.underlying26 rfl voteInfo ?_) | ((with_reducible refine at_store 5 ?_); refine wpList_store_new rfl 26 (.tmp 5) (.tmp 14) rfl _ _ rfl rfl voteInfo rfl rfl ?_))
      refine (elPutFirst_any G 0 n c k l1 l hn1.out hlk hl hc hc2 _ hll' hV1).mono ?_
      rintro e w2 ⟨⟨rv, rfl, ho2⟩, k2⟩
      have hat2 := Lib.hid ho2.at
      have k2' := Lib.hid (k1.out.trans k2)
      have hB2 := Lib.hid (hB1.out.keep k2 id)
      clear ho2 k2 k1 hB1
      go_wp2_with fail
      refine (elElect_any rv l (l1.take k ++ l1.drop (k + 1)) (by rw [hflen.out]; exact hl) x y _ hat2 hx' hy').mono ?_
      rintro e w3 ⟨rfl, k3⟩
      have k3' := Lib.hid (k2'.out.trans k3)
      have hB3 := Lib.hid (hB2.out.keep k3 id)
      clear k3 k2' hB2 hat2
      -- behind Elect
      have hcl := hcell'.out
      obtain ⟨⟨u3, hc3'⟩, hf3'⟩ := hcl (k * 5 + 3) (by omega)
      obtain ⟨⟨u4, hc4'⟩, hf4'⟩ := hcl (k * 5 + 4) (by omega)
      have hc3 : w3.cell? ⟨G, k * 5 + 3, none⟩ = some u3 := by rw [k3'.out.cell (p := ⟨G, k * 5 + 3, none⟩) hgl'.out id]; exact hc3'
      have hc4 : w3.cell? ⟨G, k * 5 + 4, none⟩ = some u4 := by rw [k3'.out.cell (p := ⟨G, k * 5 + 4, none⟩) hgl'.out id]; exact hc4'
      have hf3 : w3.frozen? ⟨G, k * 5 + 3, none⟩ = false := by rw [k3'.out.frozen (p := ⟨G, k * 5 + 3, none⟩) hgl'.out id]; exact hf3'
      have hf4 : w3.frozen? ⟨G, k * 5 + 4, none⟩ = false := by rw [k3'.out.frozen (p := ⟨G, k * 5 + 4, none⟩) hgl'.out id]; exact hf4'
      have hown4 : Hid (OwnV w0 ((w3.setCell ⟨G, k * 5 + 3, none⟩ (.int .u32 x)).setCell ⟨G, k * 5 + 4, none⟩ (.int .u32 y)) (.slice (some ⟨G, 0, none⟩) n c) (l1.set k (newV l x y))) := Lib.hid ((hown.out.keep k3'.out (fun _ _ => id)).put k l hll'.out x y)
      have hkr4 : Hid (Keeps (fun k => k = G) w ((w3.setCell ⟨G, k * 5 + 3, none⟩ (.int .u32 x)).setCell ⟨G, k * 5 + 4, none⟩ (.int .u32 y))) := Lib.hid (((hkr.out.trans (k3'.out.mono (fun i f => f.elim))).setCell (.inl rfl) _).setCell (.inl rfl) _)
      have hB4 : Hid (BlkAt ((w3.setCell ⟨G, k * 5 + 3, none⟩ (.int .u32 x)).setCell ⟨G, k * 5 + 4, none⟩ (.int .u32 y)) wr.heap.size 26 (voteVals l)) := Lib.hid ((hB3.out.keep ((Keeps.refl (fun k => k = G) w3).setCell (.inl rfl) _) (fun e => hneG.out e.symm)).keep ((Keeps.refl (fun k => k = G) _).setCell (.inl rfl) _) (fun e => hneG.out e.symm))
      have hl4 : Hid ((l1.set k (newV l x y)).length = n) := Lib.hid (by rw [List.length_set]; exact hn1.out)
      clear hc3' hc4' hf3' hf4' hcl hcell' hown hkr hB3
      obtain ⟨i0, a0, p0, d0, b0⟩ := l
      have hr4 : ((w3.setCell ⟨G, k * 5 + 3, none⟩ (.int .u32 x)).setCell ⟨G, k * 5 + 4, none⟩ (.int .u32 y)).rangeAt G (k * 5) [.int .u32 i0, .int .u32 a0, .int .i64 p0, .int .u32 x, .int .u32 y] := by
        obtain ⟨p, c', e, -, -, hr⟩ := hown4.out.at
        obtain ⟨g, o, ep, hr⟩ := hr (by rw [hl4.out]; omega)
        injection e with e1 e2 e3
        rw [← e1] at ep
        injection ep with ep; injection ep with ep1 ep2
        subst ep1; subst ep2
        have := hr k (newV ⟨i0, a0, p0, d0, b0⟩ x y) (by rw [List.getElem?_set_self (by rw [hn1.out]; exact hlk)])
        rw [Nat.zero_add] at this; exact this
      have hr4' := Lib.hid hr4
      clear hr4
      obtain ⟨w4, hw4⟩ : ∃ w4, ((w3.setCell ⟨G, k * 5 + 3, none⟩ (.int .u32 x)).setCell ⟨G, k * 5 + 4, none⟩ (.int .u32 y)) = w4 := ⟨_, rfl⟩
      rw [hw4] at hown4 hkr4 hr4' hB4
      have hw4' := Lib.hid hw4
      clear hw4
      go_upto_region 7 with fail
      rw [hw4'.out]
      clear hw4' hc3 hc4 hf3 hf4
      have hend : ∀ (W : World) (q : Bool), Keeps (fun _ => False) w4 W → Hid ((ch || !(decide (x = d0) && decide (y = b0))) = q) → (∃ (k_1 : Nat) (ch_1 : Bool) (l1_1 : List VotD), k_1 ≤ n ∧ Value.bool q = .bool ch_1 ∧ Value.int .i64 ((k : Int) + 1) = .int .i64 k_1 ∧ Hid (passFrom (n - k_1) k_1 ch_1 l1_1 = (z, ls')) ∧ Hid (l1_1.length = n) ∧ Hid (OwnV w0 W (.slice (some ⟨G, 0, none⟩) n c) l1_1) ∧ Hid (Keeps (fun k => k = G) w W)) ∧ n - (intOf (Value.int .i64 ((k : Int) + 1))).toNat < n - (intOf (Value.int .i64 (k : Int))).toNat := fun W q hKW hq =>
        ⟨⟨k + 1, q, _, by omega, rfl, by go_num, Lib.hid (by rw [← hq.out]; exact hp2'.out), hl4, Lib.hid (hown4.out.keep hKW (fun _ _ => id)), Lib.hid (hkr4.out.trans (hKW.mono (fun i f => f.elim)))⟩, by simp [intOf]; omega⟩
      have hend' := Lib.hid hend
      clear hend hp2' hown4 hkr4 hl4
      cases ch with
      | true =>
        refine wp_region_noPanic ?_
        refine wp_region_held_drew (S := (fun W => Keeps (fun _ => False) w4 W)) (by kernel_rfl) (((Keeps.refl (fun _ => False) _).drew)) (fun hHeld => ?_)
        refine takeL 0 (v := ?_) rfl (by kernel_rfl) (by kernel_rfl) (by kernel_rfl) (fun _ _ _ h => h) (Or.inl ⟨by rfl, ?_⟩) (by assumption) ?_
        rotate_left
        · (intro wS hSw; go_simp; try with_reducible rfl)
        try simp only [Act.put, List.setIfInBounds_toArray, List.set_cons_zero, List.set_cons_succ]
        refine takeL 1 (v := ?_) rfl (by kernel_rfl) (by kernel_rfl) (by kernel_rfl) (fun _ _ _ h => h) (Or.inl ⟨by rfl, ?_⟩) (by assumption) ?_
        rotate_left
        · (intro wS hSw; go_simp; try with_reducible rfl)
        try simp only [Act.put, List.setIfInBounds_toArray, List.set_cons_zero, List.set_cons_succ]
        refine takeL 2 (v := undef) rfl (by kernel_rfl) (by kernel_rfl) (by kernel_rfl) (fun _ _ _ h => h) (Or.inr ⟨by rfl, rfl⟩) (by assumption) ?_
        try simp only [Act.put, List.setIfInBounds_toArray, List.set_cons_zero, List.set_cons_succ]
        refine takeL 3 (v := undef) rfl (by kernel_rfl) (by kernel_rfl) (by kernel_rfl) (fun _ _ _ h => h) (Or.inr ⟨by rfl, rfl⟩) (by assumption) ?_
        try simp only [Act.put, List.setIfInBounds_toArray, List.set_cons_zero, List.set_cons_succ]
        refine takeL 4 (v := undef) rfl (by kernel_rfl) (by kernel_rfl) (by kernel_rfl) (fun _ _ _ h => h) (Or.inr ⟨by rfl, rfl⟩) (by assumption) ?_
        try simp only [Act.put, List.setIfInBounds_toArray, List.set_cons_zero, List.set_cons_succ]
        refine takeL 5 (v := undef) rfl (by kernel_rfl) (by kernel_rfl) (by kernel_rfl) (fun _ _ _ h => h) (Or.inr ⟨by rfl, rfl⟩) (by assumption) ?_
        try simp only [Act.put, List.setIfInBounds_toArray, List.set_cons_zero, List.set_cons_succ]
        refine takeL 6 (v := undef) rfl (by kernel_rfl) (by kernel_rfl) (by kernel_rfl) (fun _ _ _ h => h) (Or.inr ⟨by rfl, rfl⟩) (by assumption) ?_
        try simp only [Act.put, List.setIfInBounds_toArray, List.set_cons_zero, List.set_cons_succ]
        refine takeL 7 (v := undef) rfl (by kernel_rfl) (by kernel_rfl) (by kernel_rfl) (fun _ _ _ h => h) (Or.inr ⟨by rfl, rfl⟩) (by assumption) ?_
        try simp only [Act.put, List.setIfInBounds_toArray, List.set_cons_zero, List.set_cons_succ]
        refine takeL 8 (v := ?_) rfl (by kernel_rfl) (by kernel_rfl) (by kernel_rfl) (fun _ _ _ h => h) (Or.inl ⟨by rfl, ?_⟩) (by assumption) ?_
        rotate_left
        · (intro wS hSw; go_simp; try with_reducible rfl)
        try simp only [Act.put, List.setIfInBounds_toArray, List.set_cons_zero, List.set_cons_succ]
        refine takeL 9 (v := ?_) rfl (by kernel_rfl) (by kernel_rfl) (by kernel_rfl) (fun _ _ _ h => h) (Or.inl ⟨by rfl, ?_⟩) (by assumption) ?_
        rotate_left
        · (intro wS hSw; go_simp; try with_reducible rfl)
        try simp only [Act.put, List.setIfInBounds_toArray, List.set_cons_zero, List.set_cons_succ]
        refine wpAnyH_done (by kernel_rfl) (NoPanic.normal ?_) _
        have hH := Lib.hid hHeld
        clear hHeld
        go_wp2_with fail
        exact hend'.out _ true hH.out (Lib.hid rfl)
      | false =>
        by_cases h1 : x = d0
        · by_cases h2 : y = b0
          · have hq : Hid ((false || !(decide (x = d0) && decide (y = b0))) = false) := Lib.hid (by simp [h1, h2])
            subst h1; subst h2
            refine wp_region_noPanic ?_
            refine wp_region_held_drew (S := (fun W => Keeps (fun _ => False) w4 W)) (by kernel_rfl) (((Keeps.refl (fun _ => False) _).drew)) (fun hHeld => ?_)
            refine takeL 0 (v := ?_) rfl (by kernel_rfl) (by kernel_rfl) (by kernel_rfl) (fun _ _ _ h => h) (Or.inl ⟨by rfl, ?_⟩) (by assumption) ?_
            rotate_left
            · (intro wS hSw; go_simp; try with_reducible rfl)
            try simp only [Act.put, List.setIfInBounds_toArray, List.set_cons_zero, List.set_cons_succ]
            refine takeL 1 (v := ?_) rfl (by kernel_rfl) (by kernel_rfl) (by kernel_rfl) (fun _ _ _ h => h) (Or.inl ⟨by rfl, ?_⟩) (by assumption) ?_
            rotate_left
            · (intro wS hSw; go_simp; try with_reducible rfl)
            try simp only [Act.put, List.setIfInBounds_toArray, List.set_cons_zero, List.set_cons_succ]
            refine takeL 2 (v := ?_) rfl (by kernel_rfl) (by kernel_rfl) (by kernel_rfl) (fun _ _ _ h => h) (Or.inl ⟨by rfl, ?_⟩) (by assumption) ?_
            rotate_left
            · (intro wS hSw; go_simp; try with_reducible rfl)
            try simp only [Act.put, List.setIfInBounds_toArray, List.set_cons_zero, List.set_cons_succ]
            refine takeL 3 (v := ?_) rfl (by kernel_rfl) (by kernel_rfl) (by kernel_rfl) (fun _ _ _ h => h) (Or.inl ⟨by rfl, ?_⟩) (by assumption) ?_
            rotate_left
            · (intro wS hSw; go_simp; try with_reducible rfl)
            try simp only [Act.put, List.setIfInBounds_toArray, List.set_cons_zero, List.set_cons_succ]
            refine takeL 4 (v := ?_) rfl (by kernel_rfl) (by kernel_rfl) (by kernel_rfl) (fun _ _ _ h => h) (Or.inl ⟨by rfl, ?_⟩) (by assumption) ?_
            rotate_left
            · (intro wS hSw; go_simp; try with_reducible rfl)
            try simp only [Act.put, List.setIfInBounds_toArray, List.set_cons_zero, List.set_cons_succ]
            refine takeL 5 rfl (by kernel_rfl) (by kernel_rfl) (by kernel_rfl) (fun _ _ _ h => h) (yieldsIf_load_mid (by rfl) 26 (.tmp 34) rfl G (k * 5) rfl [.int .u32 i0, .int .u32 a0, .int .i64 p0, .int .u32 x, .int .u32 y] _ (fun _ s => s.rangeAt hr4'.out id) Try.underlying26 rfl voteInfo) (by assumption) ?_
            try simp only [Act.put, List.setIfInBounds_toArray, List.set_cons_zero, List.set_cons_succ]
            refine takeL 6 rfl (by kernel_rfl) (by kernel_rfl) (by kernel_rfl) (fun _ _ _ h => h) (yieldsIf_load_mid (by rfl) 26 (.tmp 5) rfl wr.heap.size 0 rfl [.int .u32 i0, .int .u32 a0, .int .i64 p0, .int .u32 x, .int .u32 y] _ (fun _ s => s.rangeAt hB4.out.range id) Try.underlying26 rfl voteInfo) (by assumption) ?_
            try simp only [Act.put, List.setIfInBounds_toArray, List.set_cons_zero, List.set_cons_succ]
            refine takeL 7 (v := ?_) rfl (by kernel_rfl) (by kernel_rfl) (by kernel_rfl) (fun _ _ _ h => h) (Or.inl ⟨by rfl, ?_⟩) (by assumption) ?_
            rotate_left
            · (intro wS hSw; go_simp; try with_reducible rfl)
            try simp only [Act.put, List.setIfInBounds_toArray, List.set_cons_zero, List.set_cons_succ]
            refine takeL 8 (v := ?_) rfl (by kernel_rfl) (by kernel_rfl) (by kernel_rfl) (fun _ _ _ h => h) (Or.inl ⟨by rfl, ?_⟩) (by assumption) ?_
            rotate_left
            · (intro wS hSw; go_simp; try with_reducible rfl)
            try simp only [Act.put, List.setIfInBounds_toArray, List.set_cons_zero, List.set_cons_succ]
            refine takeL 9 (v := ?_) rfl (by kernel_rfl) (by kernel_rfl) (by kernel_rfl) (fun _ _ _ h => h) (Or.inl ⟨by rfl, ?_⟩) (by assumption) ?_
            rotate_left
            · (intro wS hSw; go_simp; try with_reducible rfl)
            try simp only [Act.put, List.setIfInBounds_toArray, List.set_cons_zero, List.set_cons_succ]
            refine wpAnyH_done (by kernel_rfl) (NoPanic.normal ?_) _
            have hH := Lib.hid hHeld
            clear hHeld
            go_wp2_with fail
            exact hend'.out _ false hH.out hq
          · have hq : Hid ((false || !(decide (x = d0) && decide (y = b0))) = true) := Lib.hid (by simp [h2])
            subst h1
            have hni : ¬ ((y : Nat) : Int) = (b0 : Nat) := by omega
            clear h2
            refine wp_region_noPanic ?_
            refine wp_region_held_drew (S := (fun W => Keeps (fun _ => False) w4 W)) (by kernel_rfl) (((Keeps.refl (fun _ => False) _).drew)) (fun hHeld => ?_)
            refine takeL 0 (v := ?_) rfl (by kernel_rfl) (by kernel_rfl) (by kernel_rfl) (fun _ _ _ h => h) (Or.inl ⟨by rfl, ?_⟩) (by assumption) ?_
            rotate_left
            · (intro wS hSw; go_simp; try with_reducible rfl)
            try simp only [Act.put, List.setIfInBounds_toArray, List.set_cons_zero, List.set_cons_succ]
            refine takeL 1 (v := ?_) rfl (by kernel_rfl) (by kernel_rfl) (by kernel_rfl) (fun _ _ _ h => h) (Or.inl ⟨by rfl, ?_⟩) (by assumption) ?_
            rotate_left
            · (intro wS hSw; go_simp; try with_reducible rfl)
            try simp only [Act.put, List.setIfInBounds_toArray, List.set_cons_zero, List.set_cons_succ]
            refine takeL 2 (v := ?_) rfl (by kernel_rfl) (by kernel_rfl) (by kernel_rfl) (fun _ _ _ h => h) (Or.inl ⟨by rfl, ?_⟩) (by assumption) ?_
            rotate_left
            · (intro wS hSw; go_simp; try with_reducible rfl)
            try simp only [Act.put, List.setIfInBounds_toArray, List.set_cons_zero, List.set_cons_succ]
            refine takeL 3 (v := ?_) rfl (by kernel_rfl) (by kernel_rfl) (by kernel_rfl) (fun _ _ _ h => h) (Or.inl ⟨by rfl, ?_⟩) (by assumption) ?_
            rotate_left
            · (intro wS hSw; go_simp; try with_reducible rfl)
            try simp only [Act.put, List.setIfInBounds_toArray, List.set_cons_zero, List.set_cons_succ]
            refine takeL 4 (v := ?_) rfl (by kernel_rfl) (by kernel_rfl) (by kernel_rfl) (fun _ _ _ h => h) (Or.inl ⟨by rfl, ?_⟩) (by assumption) ?_
            rotate_left
            · (intro wS hSw; go_simp; try with_reducible rfl)
            try simp only [Act.put, List.setIfInBounds_toArray, List.set_cons_zero, List.set_cons_succ]
            refine takeL 5 rfl (by kernel_rfl) (by kernel_rfl) (by kernel_rfl) (fun _ _ _ h => h) (yieldsIf_load_mid (by rfl) 26 (.tmp 34) rfl G (k * 5) rfl [.int .u32 i0, .int .u32 a0, .int .i64 p0, .int .u32 x, .int .u32 y] _ (fun _ s => s.rangeAt hr4'.out id) Try.underlying26 rfl voteInfo) (by assumption) ?_
            try simp only [Act.put, List.setIfInBounds_toArray, List.set_cons_zero, List.set_cons_succ]
            refine takeL 6 rfl (by kernel_rfl) (by kernel_rfl) (by kernel_rfl) (fun _ _ _ h => h) (yieldsIf_load_mid (by rfl) 26 (.tmp 5) rfl wr.heap.size 0 rfl [.int .u32 i0, .int .u32 a0, .int .i64 p0, .int .u32 x, .int .u32 b0] _ (fun _ s => s.rangeAt hB4.out.range id) Try.underlying26 rfl voteInfo) (by assumption) ?_
            try simp only [Act.put, List.setIfInBounds_toArray, List.set_cons_zero, List.set_cons_succ]
            refine takeL 7 (v := ?_) rfl (by kernel_rfl) (by kernel_rfl) (by kernel_rfl) (fun _ _ _ h => h) (Or.inl ⟨by rfl, ?_⟩) (by assumption) ?_
            rotate_left
            · (intro wS hSw; go_simp; try with_reducible rfl)
            try simp only [Act.put, List.setIfInBounds_toArray, List.set_cons_zero, List.set_cons_succ]
            refine takeL 8 (v := ?_) rfl (by kernel_rfl) (by kernel_rfl) (by kernel_rfl) (fun _ _ _ h => h) (Or.inl ⟨by rfl, ?_⟩) (by assumption) ?_
            rotate_left
            · (intro wS hSw; go_simp; try with_reducible rfl)
            try simp only [Act.put, List.setIfInBounds_toArray, List.set_cons_zero, List.set_cons_succ]
            refine takeL 9 (v := ?_) rfl (by kernel_rfl) (by kernel_rfl) (by kernel_rfl) (fun _ _ _ h => h) (Or.inl ⟨by rfl, ?_⟩) (by assumption) ?_
            rotate_left
            · (intro wS hSw; go_simp; try with_reducible rfl)
            try simp only [Act.put, List.setIfInBounds_toArray, List.set_cons_zero, List.set_cons_succ]
            refine wpAnyH_done (by kernel_rfl) (NoPanic.normal ?_) _
            have hH := Lib.hid hHeld
            clear hHeld
            go_wp2_with fail
            exact hend'.out _ true hH.out hq
        · have hq : Hid ((false || !(decide (x = d0) && decide (y = b0))) = true) := Lib.hid (by simp [h1])
          have hni : ¬ ((x : Nat) : Int) = (d0 : Nat) := by omega
          clear h1
          refine wp_region_noPanic ?_
          refine wp_region_held_drew (S := (fun W => Keeps (fun _ => False) w4 W)) (by kernel_rfl) (((Keeps.refl (fun _ => False) _).drew)) (fun hHeld => ?_)
          refine takeL 0 (v := ?_) rfl (by kernel_rfl) (by kernel_rfl) (by kernel_rfl) (fun _ _ _ h => h) (Or.inl ⟨by rfl, ?_⟩) (by assumption) ?_
          rotate_left
          · (intro wS hSw; go_simp; try with_reducible rfl)
          try simp only [Act.put, List.setIfInBounds_toArray, List.set_cons_zero, List.set_cons_succ]
          refine takeL 1 (v := ?_) rfl (by kernel_rfl) (by kernel_rfl) (by kernel_rfl) (fun _ _ _ h => h) (Or.inl ⟨by rfl, ?_⟩) (by assumption) ?_
          rotate_left
          · (intro wS hSw; go_simp; try with_reducible rfl)
          try simp only [Act.put, List.setIfInBounds_toArray, List.set_cons_zero, List.set_cons_succ]
          refine takeL 2 (v := ?_) rfl (by kernel_rfl) (by kernel_rfl) (by kernel_rfl) (fun _ _ _ h => h) (Or.inl ⟨by rfl, ?_⟩) (by assumption) ?_
          rotate_left
          · (intro wS hSw; go_simp; try with_reducible rfl)
          try simp only [Act.put, List.setIfInBounds_toArray, List.set_cons_zero, List.set_cons_succ]
          refine takeL 3 (v := ?_) rfl (by kernel_rfl) (by kernel_rfl) (by kernel_rfl) (fun _ _ _ h => h) (Or.inl ⟨by rfl, ?_⟩) (by assumption) ?_
          rotate_left
          · (intro wS hSw; go_simp; try with_reducible rfl)
          try simp only [Act.put, List.setIfInBounds_toArray, List.set_cons_zero, List.set_cons_succ]
          refine takeL 4 (v := ?_) rfl (by kernel_rfl) (by kernel_rfl) (by kernel_rfl) (fun _ _ _ h => h) (Or.inl ⟨by rfl, ?_⟩) (by assumption) ?_
          rotate_left
          · (intro wS hSw; go_simp; try with_reducible rfl)
          try simp only [Act.put, List.setIfInBounds_toArray, List.set_cons_zero, List.set_cons_succ]
          refine takeL 5 rfl (by kernel_rfl) (by kernel_rfl) (by kernel_rfl) (fun _ _ _ h => h) (yieldsIf_load_mid (by rfl) 26 (.tmp 34) rfl G (k * 5) rfl [.int .u32 i0, .int .u32 a0, .int .i64 p0, .int .u32 x, .int .u32 y] _ (fun _ s => s.rangeAt hr4'.out id) Try.underlying26 rfl voteInfo) (by assumption) ?_
          try simp only [Act.put, List.setIfInBounds_toArray, List.set_cons_zero, List.set_cons_succ]
          refine takeL 6 rfl (by kernel_rfl) (by kernel_rfl) (by kernel_rfl) (fun _ _ _ h => h) (yieldsIf_load_mid (by rfl) 26 (.tmp 5) rfl wr.heap.size 0 rfl [.int .u32 i0, .int .u32 a0, .int .i64 p0, .int .u32 d0, .int .u32 b0] _ (fun _ s => s.rangeAt hB4.out.range id) Try.underlying26 rfl voteInfo) (by assumption) ?_
          try simp only [Act.put, List.setIfInBounds_toArray, List.set_cons_zero, List.set_cons_succ]
          refine takeL 7 (v := ?_) rfl (by kernel_rfl) (by kernel_rfl) (by kernel_rfl) (fun _ _ _ h => h) (Or.inl ⟨by rfl, ?_⟩) (by assumption) ?_
          rotate_left
          · (intro wS hSw; go_simp; try with_reducible rfl)
          try simp only [Act.put, List.setIfInBounds_toArray, List.set_cons_zero, List.set_cons_succ]
          refine takeL 8 (v := ?_) rfl (by kernel_rfl) (by kernel_rfl) (by kernel_rfl) (fun _ _ _ h => h) (Or.inl ⟨by rfl, ?_⟩) (by assumption) ?_
          rotate_left
          · (intro wS hSw; go_simp; try with_reducible rfl)
          try simp only [Act.put, List.setIfInBounds_toArray, List.set_cons_zero, List.set_cons_succ]
          refine takeL 9 (v := ?_) rfl (by kernel_rfl) (by kernel_rfl) (by kernel_rfl) (fun _ _ _ h => h) (Or.inl ⟨by rfl, ?_⟩) (by assumption) ?_
          rotate_left
          · (intro wS hSw; go_simp; try with_reducible rfl)
          try simp only [Act.put, List.setIfInBounds_toArray, List.set_cons_zero, List.set_cons_succ]
          refine wpAnyH_done (by kernel_rfl) (NoPanic.normal ?_) _
          have hH := Lib.hid hHeld
          clear hHeld
          go_wp2_with fail
          exact hend'.out _ true hH.out hq
    · obtain rfl : k = n := by omega
      have he := hp.out
      rw [Nat.sub_self, passFrom] at he
      injection he with he1 he2
      subst he1; subst he2
      clear hp
      go_wp2_with fail
      go_ret
      exact ⟨rfl, hown.out, hkr.out⟩
end Go.Proofs.Ytdjbgjcniacgdaa
