/- The law's From of an Lsa, its lists in new blocks (QFf for a seat without packets). -/
import Derived.Test.YtialookpnoaogaaGreatAA22
import Derived.Test.YtialookpnoaogaaGreatAA21
import Derived.Test.YtialookpnoaogaaGreatAA19
import Derived.Test.YtialookpnoaogaaGreatAA20
set_option linter.unusedVariables false
set_option linter.unusedSimpArgs false
namespace Go.Proofs.YtialookpnoaogaaGreat
open Go.RowKit

theorem own_any {p : Option Addr} {n c n' c' i : Nat} (e : (Value.slice p n c).ownBlock = some i) : (Value.slice p n' c').ownBlock = some i := by
  cases p with
  | none => simp [Value.ownBlock] at e
  | some a => exact e

set_option maxRecDepth 100000 in
set_option maxHeartbeats 4000000 in
theorem lwFrom_f (age type seq cost : Int) (id adv mask : Nat) (links : List LinkD) (routers : List Nat) (p5 p7 : Option Addr) (c5 c7 : Nat) (w : World)
    (hl : Hid (LinksAt w (.slice p5 links.length c5) links)) (hr : Hid (NumsAt w (.slice p7 routers.length c7) routers)) (hll : links.length * 24 ≤ 140737488351232) (hrl : routers.length * 4 ≤ 140737488351232) :
    Calls Tryz.prog 34 #[.agg #[.int .i64 age, .int .i64 type, .int .u32 id, .int .u32 adv, .int .i64 seq, .slice p5 links.length c5, .int .u32 mask, .slice p7 routers.length c7, .int .i64 cost]] w (fun e w' => (∃ p5 c5 p7 c7, e = .returned (.agg #[.int .i64 age, .int .i64 type, .int .u32 id, .int .u32 adv, .int .i64 seq, .slice p5 links.length c5, .int .u32 mask, .slice p7 routers.length c7, .int .i64 cost]) ∧ LinksAt w' (.slice p5 links.length c5) links ∧ NumsAt w' (.slice p7 routers.length c7) routers ∧ (∀ i n c, (Value.slice p5 n c).ownBlock = some i → w.heap.size ≤ i) ∧ (∀ i n c, (Value.slice p7 n c).ownBlock = some i → w.heap.size ≤ i)) ∧ Keeps (fun _ => False) w w') := by
  have hA : Hid (Boxed w.heap.size [.int .i64 age, .int .i64 type, .int .u32 id, .int .u32 adv, .int .i64 seq, .slice p5 links.length c5, .int .u32 mask, .slice p7 routers.length c7, .int .i64 cost] w ((w.alloc (.cells #[.int .i64 age, .int .i64 type, .int .u32 id, .int .u32 adv, .int .i64 seq, .slice p5 links.length c5, .int .u32 mask, .slice p7 routers.length c7, .int .i64 cost] 75)).alloc (.cells #[.int .i64 0, .int .i64 0, .int .u32 0, .int .u32 0, .int .i64 0, .slice none 0 0, .int .u32 0, .slice none 0 0, .int .i64 0] 94))) := Lib.hid ((boxed_new w _ _).next ((Keeps.refl _ _).alloc _))
  have hL := Lib.hid (hl.out.keep hA.out.k)
  have hR := Lib.hid (hr.out.keep hA.out.k)
  clear hl hr
  go_enter Tryz.func34, Tryz.ntmps34
  go_upto_region 1 with fail
  refine wp_region_noPanic ?_
  refine wp_region_held_drew (S := (fun W => Keeps (fun _ => False) ((w.alloc (.cells #[.int .i64 age, .int .i64 type, .int .u32 id, .int .u32 adv, .int .i64 seq, .slice p5 links.length c5, .int .u32 mask, .slice p7 routers.length c7, .int .i64 cost] 75)).alloc (.cells #[.int .i64 0, .int .i64 0, .int .u32 0, .int .u32 0, .int .i64 0, .slice none 0 0, .int .u32 0, .slice none 0 0, .int .i64 0] 94)) W)) (by kernel_rfl) (((Keeps.refl (fun _ => False) _).drew)) (fun hHeld => ?_)
  refine tk 0 rfl ?_
  refine tkL 1 rfl (yieldsIf_load_cell (by rfl) 3 (.tmp 5) rfl w.heap.size 0 rfl _ (fun _ s => (hA.out.next s).cell 0 (.int .i64 age) rfl) (fun w s => load_int w _ _ _ s)) ?_
  refine tk 2 rfl ?_
  refine tk 3 rfl ?_
  refine tkL 4 rfl (yieldsIf_load_cell (by rfl) 3 (.tmp 8) rfl w.heap.size 1 rfl _ (fun _ s => (hA.out.next s).cell 1 (.int .i64 type) rfl) (fun w s => load_int w _ _ _ s)) ?_
  refine tk 5 rfl ?_
  refine tk 6 rfl ?_
  refine tkL 7 rfl (yieldsIf_load_cell (by rfl) 40 (.tmp 11) rfl w.heap.size 2 rfl _ (fun _ s => (hA.out.next s).cell 2 (.int .u32 id) rfl) (fun w s => load_u32 w _ _ _ s)) ?_
  refine tk 8 rfl ?_
  refine tk 9 rfl ?_
  refine tkL 10 rfl (yieldsIf_load_cell (by rfl) 40 (.tmp 14) rfl w.heap.size 3 rfl _ (fun _ s => (hA.out.next s).cell 3 (.int .u32 adv) rfl) (fun w s => load_u32 w _ _ _ s)) ?_
  refine tk 11 rfl ?_
  refine tk 12 rfl ?_
  refine tkL 13 rfl (yieldsIf_load_cell (by rfl) 3 (.tmp 17) rfl w.heap.size 4 rfl _ (fun _ s => (hA.out.next s).cell 4 (.int .i64 seq) rfl) (fun w s => load_int w _ _ _ s)) ?_
  refine tk 14 rfl ?_
  refine tkL 15 rfl (yieldsIf_load_cell (by rfl) 40 (.tmp 19) rfl w.heap.size 6 rfl _ (fun _ s => (hA.out.next s).cell 6 (.int .u32 mask) rfl) (fun w s => load_u32 w _ _ _ s)) ?_
  refine tk 17 rfl ?_
  refine tkL 18 rfl (yieldsIf_load_cell (by rfl) 73 (.tmp 22) rfl w.heap.size 7 rfl _ (fun _ s => (hA.out.next s).cell 7 (.slice p7 routers.length c7) rfl) (fun w s => load_u32s w _ _ _ s)) ?_
  refine tk 20 rfl ?_
  refine tkL 21 rfl (yieldsIf_load_cell (by rfl) 3 (.tmp 25) rfl w.heap.size 8 rfl _ (fun _ s => (hA.out.next s).cell 8 (.int .i64 cost) rfl) (fun w s => load_int w _ _ _ s)) ?_
  obtain ⟨i0, hi0, hz0, hz1, hz2⟩ := info_parts u32InfoAll
  refine wpAnyH_slots [21, 24, 27, 3] [16, 19, 22, 23, 24] (fun L f W =>
      (L 16 = true → L 19 = false → OwnN ((w.alloc (.cells #[.int .i64 age, .int .i64 type, .int .u32 id, .int .u32 adv, .int .i64 seq, .slice p5 links.length c5, .int .u32 mask, .slice p7 routers.length c7, .int .i64 cost] 75)).alloc (.cells #[.int .i64 0, .int .i64 0, .int .u32 0, .int .u32 0, .int .i64 0, .slice none 0 0, .int .u32 0, .slice none 0 0, .int .i64 0] 94)) W (f 21) []) ∧
      (L 19 = true → L 24 = false → L 16 = true ∧ ∃ p c, f 24 = .slice p routers.length c ∧ OwnN ((w.alloc (.cells #[.int .i64 age, .int .i64 type, .int .u32 id, .int .u32 adv, .int .i64 seq, .slice p5 links.length c5, .int .u32 mask, .slice p7 routers.length c7, .int .i64 cost] 75)).alloc (.cells #[.int .i64 0, .int .i64 0, .int .u32 0, .int .u32 0, .int .i64 0, .slice none 0 0, .int .u32 0, .slice none 0 0, .int .i64 0] 94)) W (.slice p routers.length c) routers) ∧
      (L 22 = true → L 24 = false → L 19 = true ∧ ∀ p c, f 24 = .slice p routers.length c → f 27 = .agg #[.int .i64 age, .int .i64 type, .int .u32 id, .int .u32 adv, .int .i64 seq, .slice none 0 0, .int .u32 mask, .slice p routers.length c, .int .i64 cost]) ∧
      (L 23 = true → L 24 = false → ∃ B, f 3 = .pointer (some ⟨B, 0, none⟩) ∧ ((w.alloc (.cells #[.int .i64 age, .int .i64 type, .int .u32 id, .int .u32 adv, .int .i64 seq, .slice p5 links.length c5, .int .u32 mask, .slice p7 routers.length c7, .int .i64 cost] 75)).alloc (.cells #[.int .i64 0, .int .i64 0, .int .u32 0, .int .u32 0, .int .i64 0, .slice none 0 0, .int .u32 0, .slice none 0 0, .int .i64 0] 94)).heap.size ≤ B ∧ BlkAt W B 94 [.int .i64 0, .int .i64 0, .int .u32 0, .int .u32 0, .int .i64 0, .slice none 0 0, .int .u32 0, .slice none 0 0, .int .i64 0]) ∧
      (L 24 = true → L 16 = true ∧ L 19 = true ∧ L 22 = true ∧ L 23 = true ∧ ∃ B p c, f 3 = .pointer (some ⟨B, 0, none⟩) ∧ ((w.alloc (.cells #[.int .i64 age, .int .i64 type, .int .u32 id, .int .u32 adv, .int .i64 seq, .slice p5 links.length c5, .int .u32 mask, .slice p7 routers.length c7, .int .i64 cost] 75)).alloc (.cells #[.int .i64 0, .int .i64 0, .int .u32 0, .int .u32 0, .int .i64 0, .slice none 0 0, .int .u32 0, .slice none 0 0, .int .i64 0] 94)).heap.size ≤ B ∧ BlkAt W B 94 [.int .i64 age, .int .i64 type, .int .u32 id, .int .u32 adv, .int .i64 seq, .slice none 0 0, .int .u32 mask, .slice p routers.length c, .int .i64 cost] ∧ OwnN ((w.alloc (.cells #[.int .i64 age, .int .i64 type, .int .u32 id, .int .u32 adv, .int .i64 seq, .slice p5 links.length c5, .int .u32 mask, .slice p7 routers.length c7, .int .i64 cost] 75)).alloc (.cells #[.int .i64 0, .int .i64 0, .int .u32 0, .int .u32 0, .int .i64 0, .slice none 0 0, .int .u32 0, .slice none 0 0, .int .i64 0] 94)) W (.slice p routers.length c) routers)) (by kernel_rfl) (by kernel_rfl) (by kernel_rfl) (by kernel_rfl) (Nat.le_of_ble_eq_true (by kernel_rfl)) hHeld
    (fun L f h => ⟨fun e => absurd (h 16 (by decide)) (by rw [e]; decide), fun e => absurd (h 19 (by decide)) (by rw [e]; decide), fun e => absurd (h 22 (by decide)) (by rw [e]; decide), fun e => absurd (h 23 (by decide)) (by rw [e]; decide), fun e => absurd (h 24 (by decide)) (by rw [e]; decide)⟩) ?_ ?_
  · refine StepsG.cons (d := 21) rfl rfl (by decide) ?_ (StepsG.cons (d := 24) rfl rfl (by decide) ?_ (StepsG.cons (d := 27) rfl rfl (by decide) ?_ (StepsG.cons (d := 3) rfl rfl (by decide) ?_ (StepsG.cons0 rfl rfl ?_ StepsG.nil))))
    · intro L f W hG hS hL hdep K hK
      simp only [actOf, List.foldl_cons, List.foldl_nil, Act.put, sA, sZ, sS] at hK ⊢
      rw [if_pos (by rfl)]
      go_simp
      have n24 : L 24 = false := by cases h : L 24 with
        | false => rfl
        | true => exact absurd ((hG.2.2.2.2 h).1.symm.trans hL) (by decide)
      have hk' : Keeps (fun _ => False) W (W.alloc (.cells #[] 40)) := (Keeps.refl _ _).alloc _
      refine hK.out _ _ (hS.trans hk') ⟨fun _ _ => OwnN.new _ _ hS.size [] rfl (by unfold maxLen; omega), fun e19 _ => absurd ((hG.2.1 e19 n24).1.symm.trans hL) (by decide), hG.2.2.1, fun e23 _ => ?_, fun e24 => absurd (n24.symm.trans e24) (by decide)⟩
      obtain ⟨B, h1, h2, h3⟩ := hG.2.2.2.1 e23 n24
      exact ⟨B, h1, h2, h3.keep hk' (fun f => f)⟩
    · intro L f W hG hS hL hdep K hK
      simp only [actOf, List.foldl_cons, List.foldl_nil, Act.put, sA, sZ, sS] at hK ⊢
      rw [if_pos (by rfl)]
      have d16 := hdep ⟨16, .data⟩ (by simp) rfl (by decide)
      have n24 : L 24 = false := by cases h : L 24 with
        | false => rfl
        | true => exact absurd ((hG.2.2.2.2 h).2.1.symm.trans hL) (by decide)
      have ho := hG.1 d16 hL
      refine wp_append_numsb (.tmp 21) (.tmp 23) 73 rfl i0 Tryz.underlying73 hi0 hz0 hz1 hz2 ((w.alloc (.cells #[.int .i64 age, .int .i64 type, .int .u32 id, .int .u32 adv, .int .i64 seq, .slice p5 links.length c5, .int .u32 mask, .slice p7 routers.length c7, .int .i64 cost] 75)).alloc (.cells #[.int .i64 0, .int .i64 0, .int .u32 0, .int .u32 0, .int .i64 0, .slice none 0 0, .int .u32 0, .slice none 0 0, .int .i64 0] 94)) (f 21) 0 [] rfl rfl ho _ rfl routers (hR.out.keep hS) (by omega) ?_
      intro p c w' ho' hg
      rw [Nat.zero_add, List.nil_append] at ho'
      rw [Nat.zero_add]
      refine hK.out _ _ (hS.trans' hg.k (fun i e => .inr (ho.2.1 i e))) ⟨fun _ e => absurd (show true = false from e) (by decide), fun _ _ => ⟨d16, p, c, rfl, ho'⟩, fun e22 _ => absurd ((hG.2.2.1 e22 n24).1.symm.trans hL) (by decide), fun e23 _ => ?_, fun e24 => absurd (n24.symm.trans e24) (by decide)⟩
      obtain ⟨B, h1, h2, h3⟩ := hG.2.2.2.1 e23 n24
      exact ⟨B, h1, h2, h3.keep hg.k (fun e => ho.ne_blkR h3 B e rfl)⟩
    · intro L f W hG hS hL hdep K hK
      have d19 := hdep ⟨19, .data⟩ (by simp) rfl (by decide)
      have n24 : L 24 = false := by cases h : L 24 with
        | false => rfl
        | true => exact absurd ((hG.2.2.2.2 h).2.2.1.symm.trans hL) (by decide)
      obtain ⟨d16, p, c, h24, ho⟩ := hG.2.1 d19 n24
      simp only [actOf, List.foldl_cons, List.foldl_nil, Act.put, sA, sZ, sS] at hK ⊢
      rw [if_pos (by rfl)]
      rw [h24] at hK ⊢
      go_simp
      refine hK.out _ _ hS ⟨hG.1, hG.2.1, fun _ _ => ⟨d19, fun p' c' e => ?_⟩, hG.2.2.2.1, fun e24 => absurd (n24.symm.trans e24) (by decide)⟩
      have e2 := h24.symm.trans e
      injection e2 with e3 e4 e5
      subst e3; subst e5
      rfl
    · intro L f W hG hS hL hdep K hK
      simp only [actOf, List.foldl_cons, List.foldl_nil, Act.put, sA, sZ, sS] at hK ⊢
      rw [if_pos (by rfl)]
      go_simp
      have n24 : L 24 = false := by cases h : L 24 with
        | false => rfl
        | true => exact absurd ((hG.2.2.2.2 h).2.2.2.1.symm.trans hL) (by decide)
      have hk' : Keeps (fun _ => False) W (W.alloc (.cells #[.int .i64 0, .int .i64 0, .int .u32 0, .int .u32 0, .int .i64 0, .slice none 0 0, .int .u32 0, .slice none 0 0, .int .i64 0] 94)) := (Keeps.refl _ _).alloc _
      refine hK.out _ _ (hS.trans hk') ⟨fun e16 e19 => (hG.1 e16 e19).keep hk' (fun _ _ f => f), fun e19 e24 => ?_, hG.2.2.1, fun _ _ => ⟨W.heap.size, rfl, hS.size, BlkAt.new W _ _⟩, fun e24 => absurd (n24.symm.trans e24) (by decide)⟩
      obtain ⟨d16, p, c, h24, ho⟩ := hG.2.1 e19 n24
      exact ⟨d16, p, c, h24, ho.keep hk' (fun _ _ f => f)⟩
    · intro L f W hG hS hL hdep K hK
      have d22 := hdep ⟨22, .data⟩ (by simp) rfl (by decide)
      have d23 := hdep ⟨23, .data⟩ (by simp) rfl (by decide)
      obtain ⟨d19, h27⟩ := hG.2.2.1 d22 hL
      obtain ⟨d16, p, c, h24, ho⟩ := hG.2.1 d19 hL
      have h27 := h27 p c h24
      obtain ⟨B, h3, hlo, hblk⟩ := hG.2.2.2.1 d23 hL
      simp only [actOf, List.foldl_cons, List.foldl_nil, Act.put, sA, sZ, sS] at hK ⊢
      rw [if_pos (by rfl)]
      refine wp_store_mid 94 (.tmp 3) (.tmp 27) rfl B 0 #[.int .i64 age, .int .i64 type, .int .u32 id, .int .u32 adv, .int .i64 seq, .slice none 0 0, .int .u32 mask, .slice p routers.length c, .int .i64 cost] h3 h27 (hblk.there 0 9 (Nat.le_refl 9)) lsaInfoR (lsa_one _ _ _ _ _ _ _ _ _ (slice_one _ _ _) (slice_one _ _ _)) ?_
      have hs9 : Keeps (fun i => i = B) W (W.setCells B 0 [.int .i64 age, .int .i64 type, .int .u32 id, .int .u32 adv, .int .i64 seq, .slice none 0 0, .int .u32 mask, .slice p routers.length c, .int .i64 cost]) := Keeps.setCells (F := fun i => i = B) (.inl rfl) _ _ _ (Keeps.refl _ _)
      refine hK.out _ (hS.trans' hs9 (fun i e => .inr (by subst e; exact hlo))) ⟨fun _ e => absurd (d19.symm.trans e) (by decide), fun _ e => absurd (show true = false from e) (by decide), fun _ e => absurd (show true = false from e) (by decide), fun _ e => absurd (show true = false from e) (by decide), fun _ => ⟨d16, d19, d22, d23, B, p, c, h3, hlo, ?_, ho.keep hs9 (fun i e h => ho.ne_blkR hblk i e h)⟩⟩
      exact (((((((((hblk.put 0 (.int .i64 age)).put 1 (.int .i64 type)).put 2 (.int .u32 id)).put 3 (.int .u32 adv)).put 4 (.int .i64 seq)).put 5 (.slice none 0 0)).put 6 (.int .u32 mask)).put 7 (.slice p routers.length c)).put 8 (.int .i64 cost))
  · intro f W hG hS
    obtain ⟨-, -, -, -, B, p, c, h3, hlo, hblk, hown⟩ := hG.2.2.2.2 rfl
    simp only [actOf, List.foldl_cons, List.foldl_nil, Act.put, sA, sZ, sS]
    rw [h3]
    generalize f 21 = f21
    generalize f 24 = f24
    generalize f 27 = f27
    obtain ⟨W1, hW1⟩ : ∃ W1, W1 = (w.alloc (.cells #[.int .i64 age, .int .i64 type, .int .u32 id, .int .u32 adv, .int .i64 seq, .slice p5 links.length c5, .int .u32 mask, .slice p7 routers.length c7, .int .i64 cost] 75)).alloc (.cells #[.int .i64 0, .int .i64 0, .int .u32 0, .int .u32 0, .int .i64 0, .slice none 0 0, .int .u32 0, .slice none 0 0, .int .i64 0] 94) := ⟨_, rfl⟩
    have hRes : Hid (BlkAt W1 (w.heap.size + 1) 94 [.int .i64 0, .int .i64 0, .int .u32 0, .int .u32 0, .int .i64 0, .slice none 0 0, .int .u32 0, .slice none 0 0, .int .i64 0]) := Lib.hid (by
      have := BlkAt.new (w.alloc (.cells #[.int .i64 age, .int .i64 type, .int .u32 id, .int .u32 adv, .int .i64 seq, .slice p5 links.length c5, .int .u32 mask, .slice p7 routers.length c7, .int .i64 cost] 75)) 94 [.int .i64 0, .int .i64 0, .int .u32 0, .int .u32 0, .int .i64 0, .slice none 0 0, .int .u32 0, .slice none 0 0, .int .i64 0]
      rw [hW1]; simpa using this)
    rw [← hW1] at hS hlo hown hA hL hR
    have hS' := Lib.hid hS; have hblk' := Lib.hid hblk; have hown' := Lib.hid hown; have hlo' := Lib.hid hlo
    have hz1 : Hid (OwnLR W1 W (.slice none 0 0) []) := Lib.hid (OwnLR.nil _ _ hS.size)
    obtain ⟨ii, hii, hiz, hisz, hiby⟩ := info_parts linkInfoAllR
    obtain ⟨n, hn⟩ : ∃ n, links.length = n := ⟨_, rfl⟩
    have hA1 := Lib.hid (show Boxed w.heap.size [.int .i64 age, .int .i64 type, .int .u32 id, .int .u32 adv, .int .i64 seq, .slice p5 n c5, .int .u32 mask, .slice p7 routers.length c7, .int .i64 cost] w W1 by rw [← hn]; exact hA.out)
    have hL1 : Hid (LinksAt W1 (.slice p5 n c5) links) := Lib.hid (by rw [← hn]; exact hL.out)
    have hn' := Lib.hid hn
    rw [hn] at hll ⊢
    clear hG h3 hS hblk hown hlo f hW1 hA hL hn
    refine NoPanic.normal ?_
    go_wp2_with fail
    go_loopw [4] (fun iv wr => ∃ (k : Nat) (q : Option Addr) (d : Nat), k ≤ n ∧ iv = .int .i64 k ∧ Hid (BlkAt wr B 94 [.int .i64 age, .int .i64 type, .int .u32 id, .int .u32 adv, .int .i64 seq, .slice q k d, .int .u32 mask, .slice p routers.length c, .int .i64 cost] ∧ OwnLR W1 wr (.slice q k d) (links.take k) ∧ OwnN W1 wr (.slice p routers.length c) routers ∧ Keeps (fun _ => False) W1 wr)) (fun iv _ => n - (intOf iv).toNat)
    case atStart => exact ⟨0, none, 0, by omega, rfl, Lib.hid ⟨hblk'.out, hz1.out, hown'.out, hS'.out⟩⟩
    case round =>
      obtain ⟨k, q, d, hk, rfl, hinv⟩ := hrel
      have ha5 := (hA1.out.next hinv.out.2.2.2).cell 5 (.slice p5 n c5) rfl
      by_cases hkn : k < n
      · have hkni : (k : Int) < n := by omega
        obtain ⟨g5, o5, rfl, hrows⟩ := (show ∃ g o, p5 = some ⟨g, o, none⟩ ∧ ∀ i l, links[i]? = some l → W1.rangeAt g (o + i * 4) (linkVals l) from by
          obtain ⟨p', c', e, -, -, hr⟩ := hL1.out
          injection e with e1 e2 e3
          subst e1
          exact hr (by rw [hn'.out]; omega))
        obtain ⟨l, hll2⟩ : ∃ l, links[k]? = some l := ⟨_, List.getElem?_eq_getElem (by rw [hn'.out]; exact hkn)⟩
        have htk : Hid (links.take (k + 1) = links.take k ++ [l]) := Lib.hid (by
          obtain ⟨hk2, e⟩ := List.getElem?_eq_some_iff.1 hll2
          rw [List.take_succ_eq_append_getElem hk2, e])
        have hrow := Lib.hid (hrows k l hll2)
        obtain ⟨lid, ldata, ltype, lcost⟩ := l
        clear hrows hll2
        go_upto_region 5 with fail
        refine wp_region_noPanic ?_
        refine wp_region_held_drew (S := (fun W => Keeps (fun _ => False) W1 W)) (by kernel_rfl) (hinv.out.2.2.2.drew) (fun hHeld => ?_)
        refine tk 0 rfl ?_
        refine tk 2 rfl ?_
        refine tkL 3 rfl (yieldsIf_load_cell (by rfl) 72 (.tmp 37) rfl w.heap.size 5 rfl _ (fun _ s => (hA1.out.next s).cell 5 (.slice (some ⟨g5, o5, none⟩) n c5) rfl) (fun w s => load_links w _ _ _ s)) ?_
        refine tk 4 rfl ?_
        refine tk 5 rfl ?_
        refine tk 6 rfl ?_
        refine tkL 7 rfl (yieldsIf_load_cell (by rfl) 40 (.tmp 41) rfl g5 (o5 + k * 4) rfl _ (fun _ s => (s.rangeAt hrow.out (fun f => f)) 0 (.int .u32 lid) rfl) (fun w s => load_u32 w _ _ _ s)) ?_
        refine tk 8 rfl ?_
        refine tkL 9 rfl (yieldsIf_load_cell (by rfl) 72 (.tmp 43) rfl w.heap.size 5 rfl _ (fun _ s => (hA1.out.next s).cell 5 (.slice (some ⟨g5, o5, none⟩) n c5) rfl) (fun w s => load_links w _ _ _ s)) ?_
        refine tk 10 rfl ?_
        refine tk 11 rfl ?_
        refine tk 12 rfl ?_
        refine tkL 13 rfl (yieldsIf_load_cell (by rfl) 40 (.tmp 47) rfl g5 (o5 + k * 4 + 1) rfl _ (fun _ s => (s.rangeAt hrow.out (fun f => f)) 1 (.int .u32 ldata) rfl) (fun w s => load_u32 w _ _ _ s)) ?_
        refine tk 14 rfl ?_
        refine tkL 15 rfl (yieldsIf_load_cell (by rfl) 72 (.tmp 49) rfl w.heap.size 5 rfl _ (fun _ s => (hA1.out.next s).cell 5 (.slice (some ⟨g5, o5, none⟩) n c5) rfl) (fun w s => load_links w _ _ _ s)) ?_
        refine tk 16 rfl ?_
        refine tk 17 rfl ?_
        refine tk 18 rfl ?_
        refine tkL 19 rfl (yieldsIf_load_cell (by rfl) 3 (.tmp 53) rfl g5 (o5 + k * 4 + 2) rfl _ (fun _ s => (s.rangeAt hrow.out (fun f => f)) 2 (.int .i64 ltype) rfl) (fun w s => load_int w _ _ _ s)) ?_
        refine tk 20 rfl ?_
        refine tkL 21 rfl (yieldsIf_load_cell (by rfl) 72 (.tmp 55) rfl w.heap.size 5 rfl _ (fun _ s => (hA1.out.next s).cell 5 (.slice (some ⟨g5, o5, none⟩) n c5) rfl) (fun w s => load_links w _ _ _ s)) ?_
        refine tk 22 rfl ?_
        refine tk 23 rfl ?_
        refine tk 24 rfl ?_
        refine tkL 25 rfl (yieldsIf_load_cell (by rfl) 3 (.tmp 59) rfl g5 (o5 + k * 4 + 3) rfl _ (fun _ s => (s.rangeAt hrow.out (fun f => f)) 3 (.int .i64 lcost) rfl) (fun w s => load_int w _ _ _ s)) ?_
        refine tk 26 rfl ?_
        refine wpAnyH_slots [36, 62, 63, 64] [1, 27, 28, 29, 30] (fun L f W =>
          (L 30 = false → BlkAt W B 94 [.int .i64 age, .int .i64 type, .int .u32 id, .int .u32 adv, .int .i64 seq, .slice q k d, .int .u32 mask, .slice p routers.length c, .int .i64 cost] ∧ OwnN W1 W (.slice p routers.length c) routers) ∧
          (L 28 = false → OwnLR W1 W (.slice q k d) (links.take k)) ∧
          (L 1 = true → L 28 = false → f 36 = .slice q k d) ∧
          (L 27 = true → L 28 = false → ∃ nb, f 62 = .slice (some ⟨nb, 0, none⟩) 1 1 ∧ W.rangeAt nb 0 [.int .u32 lid, .int .u32 ldata, .int .i64 ltype, .int .i64 lcost]) ∧
          (L 28 = true → L 1 = true ∧ L 27 = true ∧ (L 30 = false → ∃ q2 d2, f 63 = .slice q2 (k + 1) d2 ∧ OwnLR W1 W (.slice q2 (k + 1) d2) (links.take k ++ [⟨lid, ldata, ltype, lcost⟩]))) ∧
          (L 29 = true → L 28 = true ∧ f 64 = .pointer (some ⟨B, 5, none⟩)) ∧
          (L 30 = true → L 1 = true ∧ L 27 = true ∧ L 28 = true ∧ L 29 = true ∧ ∃ q2 d2, BlkAt W B 94 [.int .i64 age, .int .i64 type, .int .u32 id, .int .u32 adv, .int .i64 seq, .slice q2 (k + 1) d2, .int .u32 mask, .slice p routers.length c, .int .i64 cost] ∧ OwnLR W1 W (.slice q2 (k + 1) d2) (links.take k ++ [⟨lid, ldata, ltype, lcost⟩]) ∧ OwnN W1 W (.slice p routers.length c) routers)) (by kernel_rfl) (by kernel_rfl) (by kernel_rfl) (by kernel_rfl) (Nat.le_of_ble_eq_true (by kernel_rfl)) hHeld
          (fun L f h => ⟨fun _ => ⟨hinv.out.1, hinv.out.2.2.1⟩, fun _ => hinv.out.2.1, fun e => absurd (h 1 (by decide)) (by rw [e]; decide), fun e => absurd (h 27 (by decide)) (by rw [e]; decide), fun e => absurd (h 28 (by decide)) (by rw [e]; decide), fun e => absurd (h 29 (by decide)) (by rw [e]; decide), fun e => absurd (h 30 (by decide)) (by rw [e]; decide)⟩) ?_ ?_
        · refine StepsG.cons (d := 36) rfl rfl (by decide) ?_ (StepsG.cons (d := 62) rfl rfl (by decide) ?_ (StepsG.cons (d := 63) rfl rfl (by decide) ?_ (StepsG.cons (d := 64) rfl rfl (by decide) ?_ (StepsG.cons0 rfl rfl ?_ StepsG.nil))))
          · intro L f W hG hS hL hdep K hK
            have n30 : L 30 = false := no_true (fun e => absurd ((hG.2.2.2.2.2.2 e).1.symm.trans hL) (by decide))
            have n28 : L 28 = false := no_true (fun e => absurd ((hG.2.2.2.2.1 e).1.symm.trans hL) (by decide))
            have n29 : L 29 = false := no_true (fun e => absurd ((hG.2.2.2.2.2.1 e).1.symm.trans n28) (by decide))
            have hc5 := (hG.1 n30).1.cell 5 (.slice q k d) rfl
            simp only [actOf, List.foldl_cons, List.foldl_nil, Act.put, sA, sZ, sS] at hK ⊢
            rw [if_pos (by rfl)]
            go_simp
            exact hK.out _ _ hS ⟨hG.1, hG.2.1, fun _ _ => rfl, hG.2.2.2.1, fun e => absurd (n28.symm.trans e) (by decide), fun e => absurd (n29.symm.trans e) (by decide), fun e => absurd (n30.symm.trans e) (by decide)⟩
          · intro L f W hG hS hL hdep K hK
            have n30 : L 30 = false := no_true (fun e => absurd ((hG.2.2.2.2.2.2 e).2.1.symm.trans hL) (by decide))
            have n28 : L 28 = false := no_true (fun e => absurd ((hG.2.2.2.2.1 e).2.1.symm.trans hL) (by decide))
            have n29 : L 29 = false := no_true (fun e => absurd ((hG.2.2.2.2.2.1 e).1.symm.trans n28) (by decide))
            simp only [actOf, List.foldl_cons, List.foldl_nil, Act.put, sA, sZ, sS] at hK ⊢
            rw [if_pos (by rfl)]
            go_simp
            have hk' : Keeps (fun _ => False) W (W.alloc (.cells #[.int .u32 lid, .int .u32 ldata, .int .i64 ltype, .int .i64 lcost] 98)) := (Keeps.refl _ _).alloc _
            exact hK.out _ _ (hS.trans hk') ⟨fun _ => ⟨(hG.1 n30).1.keep hk' (fun f => f), (hG.1 n30).2.keep hk' (fun _ _ f => f)⟩, fun _ => (hG.2.1 n28).keep hk' (fun _ _ f => f), hG.2.2.1, fun _ _ => ⟨W.heap.size, rfl, new_rangeb W [.int .u32 lid, .int .u32 ldata, .int .i64 ltype, .int .i64 lcost] 98⟩, fun e => absurd (n28.symm.trans e) (by decide), fun e => absurd (n29.symm.trans e) (by decide), fun e => absurd (n30.symm.trans e) (by decide)⟩
          · intro L f W hG hS hL hdep K hK
            have d1 := hdep ⟨1, .data⟩ (by simp) rfl (by decide)
            have d27 := hdep ⟨27, .data⟩ (by simp) rfl (by decide)
            have n30 : L 30 = false := no_true (fun e => absurd ((hG.2.2.2.2.2.2 e).2.2.1.symm.trans hL) (by decide))
            have n29 : L 29 = false := no_true (fun e => absurd ((hG.2.2.2.2.2.1 e).1.symm.trans hL) (by decide))
            obtain ⟨nb, h62, hnb⟩ := hG.2.2.2.1 d27 hL
            have h36 := hG.2.2.1 d1 hL
            have ho := hG.2.1 hL
            have hb1 := (hG.1 n30).1
            have hb2 := (hG.1 n30).2
            simp only [actOf, List.foldl_cons, List.foldl_nil, Act.put, sA, sZ, sS] at hK ⊢
            rw [if_pos (by rfl)]
            refine wp_append_rb (.tmp 36) (.tmp 62) 92 rfl ii Tryz.underlying92 hii hiz hisz hiby W1 (.slice q k d) k (links.take k) (by rw [List.length_take, hn'.out]; omega) h36 ho ⟨nb, 0, none⟩ h62 ⟨lid, ldata, ltype, lcost⟩ (fun j u hu => by rw [Addr.add_mid]; exact hnb j u hu) (by omega) ?_
            intro q2 d2 w' ho' hg
            refine hK.out _ _ (hS.trans' hg.k (fun i e => .inr (ho.2.1 i e))) ⟨fun _ => ⟨hb1.keep hg.k (fun e => ho.ne_blkR hb1 B e rfl), hb2.keep hg.k (fun i e1 e2 => ho.ne_nums hb2 i e2 e1)⟩, fun e => absurd (show true = false from e) (by decide), fun _ e => absurd (show true = false from e) (by decide), fun _ e => absurd (show true = false from e) (by decide), fun _ => ⟨d1, d27, fun _ => ⟨q2, d2, rfl, ho'⟩⟩, fun e => absurd (n29.symm.trans e) (by decide), fun e => absurd (n30.symm.trans e) (by decide)⟩
          · intro L f W hG hS hL hdep K hK
            have d28 := hdep ⟨28, .phase⟩ (by simp) rfl (by decide)
            have n30 : L 30 = false := no_true (fun e => absurd ((hG.2.2.2.2.2.2 e).2.2.2.1.symm.trans hL) (by decide))
            simp only [actOf, List.foldl_cons, List.foldl_nil, Act.put, sA, sZ, sS] at hK ⊢
            rw [if_pos (by rfl)]
            go_simp
            exact hK.out _ _ hS ⟨hG.1, hG.2.1, hG.2.2.1, hG.2.2.2.1, hG.2.2.2.2.1, fun _ => ⟨d28, rfl⟩, fun e => absurd (n30.symm.trans e) (by decide)⟩
          · intro L f W hG hS hL hdep K hK
            have d28 := hdep ⟨28, .data⟩ (by simp) rfl (by decide)
            have d29 := hdep ⟨29, .data⟩ (by simp) rfl (by decide)
            obtain ⟨e1, e27, hx⟩ := hG.2.2.2.2.1 d28
            obtain ⟨q2, d2, h63, ho⟩ := hx hL
            have h64 := (hG.2.2.2.2.2.1 d29).2
            have hb1 := (hG.1 hL).1
            have hb2 := (hG.1 hL).2
            have hc5 := hb1.cell 5 (.slice q k d) rfl
            have hf5 := hb1.frozen 5
            have hs5 : Keeps (fun i => i = B) W (W.setCell ⟨B, 5, none⟩ (.slice q2 (k + 1) d2)) := (Keeps.refl (fun i => i = B) W).setCell (.inl rfl) _
            simp only [actOf, List.foldl_cons, List.foldl_nil, Act.put, sA, sZ, sS] at hK ⊢
            rw [h63, h64] at hK ⊢
            rw [if_pos (by rfl)]
            go_simp
            refine hK.out _ (hS.trans' hs5 (fun i e => .inr (by rw [e]; exact hlo'.out))) ⟨fun e => absurd (show true = false from e) (by decide), fun e => absurd (d28.symm.trans e) (by decide), fun _ e => absurd (d28.symm.trans e) (by decide), fun _ e => absurd (d28.symm.trans e) (by decide), fun _ => ⟨e1, e27, fun e => absurd (show true = false from e) (by decide)⟩, fun _ => ⟨d28, rfl⟩, fun _ => ⟨e1, e27, d28, d29, q2, d2, hb1.put 5 _, ho.keep hs5 (fun i e h => ho.ne_blkR hb1 i e h), hb2.keep hs5 (fun i e h => hb2.ne_blkR hb1 i e h)⟩⟩
        · intro f W hG hS
          obtain ⟨-, -, -, -, q2, d2, hb, hol, hon⟩ := hG.2.2.2.2.2.2 rfl
          simp only [actOf, List.foldl_cons, List.foldl_nil, Act.put, sA, sZ, sS]
          generalize f 36 = f36
          generalize f 62 = f62
          generalize f 63 = f63
          generalize f 64 = f64
          have hnew : Hid (BlkAt W B 94 [.int .i64 age, .int .i64 type, .int .u32 id, .int .u32 adv, .int .i64 seq, .slice q2 (k + 1) d2, .int .u32 mask, .slice p routers.length c, .int .i64 cost] ∧ OwnLR W1 W (.slice q2 (k + 1) d2) (links.take (k + 1)) ∧ OwnN W1 W (.slice p routers.length c) routers ∧ Keeps (fun _ => False) W1 W) := Lib.hid ⟨hb, by rw [htk.out]; exact hol, hon, hS⟩
          clear hG hS hb hol hon hHeld
          refine NoPanic.normal ?_
          go_wp2_with fail
          exact ⟨⟨k + 1, q2, d2, by omega, by go_num, hnew⟩, by simp [intOf]; omega⟩
      · obtain rfl : k = n := by omega
        have htk : links.take k = links := List.take_of_length_le (by rw [hn'.out]; omega)
        rw [htk] at hinv
        have hRR := Lib.hid (hRes.out.keep hinv.out.2.2.2 (fun f => f))
        have hBB := Lib.hid hinv.out.1
        have hOL := Lib.hid hinv.out.2.1
        have hON := Lib.hid hinv.out.2.2.1
        have hKK := Lib.hid (hA1.out.k.trans hinv.out.2.2.2)
        clear htk hinv hL1 hz1 hblk' hown'
        go_wp2_with (first | ((with_reducible refine at_slot 65 ?_); refine wpList_load_mid rfl 94 (.tmp 3) rfl B 0 rfl [.int .i64 age, .int .i64 type, .int .u32 id, .int .u32 adv, .int .i64 seq, .slice q k d, .int .u32 mask, .slice p routers.length c, .int .i64 cost] _ hBB.out.range Tryz.underlying94 rfl lsaInfoR ?_) | ((with_reducible refine at_store 2 ?_); refine wpList_store_blk rfl 94 (.tmp 2) (.tmp 65) rfl (w.heap.size + 1) #[.int .i64 age, .int .i64 type, .int .u32 id, .int .u32 adv, .int .i64 seq, .slice q k d, .int .u32 mask, .slice p routers.length c, .int .i64 cost] rfl rfl (BlkAt.there hRR.out 0 9 (Nat.le_refl 9)) lsaInfoR (lsa_one _ _ _ _ _ _ _ _ _ (slice_one _ _ _) (slice_one _ _ _)) ?_; intro w9 hr9 hs9))
        have c0 := rangeAt_cell hr9.out 0 (.int .i64 age) rfl
        have c1 := rangeAt_cell hr9.out 1 (.int .i64 type) rfl
        have c2 := rangeAt_cell hr9.out 2 (.int .u32 id) rfl
        have c3 := rangeAt_cell hr9.out 3 (.int .u32 adv) rfl
        have c4 := rangeAt_cell hr9.out 4 (.int .i64 seq) rfl
        have c5 := rangeAt_cell hr9.out 5 (.slice q k d) rfl
        have c6 := rangeAt_cell hr9.out 6 (.int .u32 mask) rfl
        have c7 := rangeAt_cell hr9.out 7 (.slice p routers.length c) rfl
        have c8 := rangeAt_cell hr9.out 8 (.int .i64 cost) rfl
        refine bodyPost_ret (v := .agg #[.int .i64 age, .int .i64 type, .int .u32 id, .int .u32 adv, .int .i64 seq, .slice q k d, .int .u32 mask, .slice p routers.length c, .int .i64 cost]) (by simp [results, Tryz.results34, go_sem, c0, c1, c2, c3, c4, c5, c6, c7, c8]) rfl ?_
        have hfl := (hOL.out.keep hs9.out (fun i e h => hOL.out.ne_blkR hRR.out i e h)).at
        have hfn := (hON.out.keep hs9.out (fun i e h => hON.out.ne_blkR hRR.out i e h)).at
        refine ⟨⟨q, d, p, c, ?_, ?_, hfn, fun i n' c' e => Nat.le_trans hA1.out.k.size (hOL.out.2.1 i (own_any e)), fun i n' c' e => Nat.le_trans hA1.out.k.size (hON.out.2.1 i (own_any e))⟩, hKK.out.trans' hs9.out (fun i e => .inr (by rw [e]; omega))⟩
        · rw [hn'.out]
        · rw [hn'.out]; exact hfl
end Go.Proofs.YtialookpnoaogaaGreat
/- Of adv: the law's From. -/
set_option linter.unusedVariables false
set_option linter.unusedSimpArgs false
namespace Go.Proofs.YtialookpnoaogaaGreat
open Go.RowKit

theorem ref15OwnAll : ∃ i, Tryz.prog.info? 96 = some i ∧ i.zero = some (.agg #[.int .u32 0, .int .i64 0, .int .i64 0, .int .u32 0, .int .u32 0, .int .i64 0, .slice none 0 0, .int .u32 0, .slice none 0 0, .int .i64 0]) ∧ i.size = 10 ∧ i.bytes = 104 := by
  have h : (Tryz.prog.info? 96).map (fun i => (i.zero, i.size, i.bytes)) = some (some (.agg #[.int .u32 0, .int .i64 0, .int .i64 0, .int .u32 0, .int .u32 0, .int .i64 0, .slice none 0 0, .int .u32 0, .slice none 0 0, .int .i64 0]), 10, 104) := by kernel_rfl
  obtain ⟨i, hi, e⟩ := Option.map_eq_some_iff.1 h
  injection e with e1 e; injection e with e2 e3
  exact ⟨i, hi, e1, e2, e3⟩
theorem lsaInfoF : (Tryz.prog.info? 75).map (·.size) = some 9 := by kernel_rfl
theorem OwnOf.keepF {W W' : World} {F : Nat → Prop} {e : OwnE} {d : TellD} (h : OwnOf W e d) (k : Keeps F W W') (h5 : 0 < d.links.length → ∀ i, (Value.slice e.p5 e.n5 e.c5).ownBlock = some i → ¬ F i) (h7 : 0 < d.nums.length → ∀ i, (Value.slice e.p7 e.n7 e.c7).ownBlock = some i → ¬ F i) : OwnOf W' e d :=
  ⟨h.area, h.type, h.id, h.own_, h.mask, h.n5, h.n7, h.links.keepF k h5, h.nums.keepF k h7⟩
/-- a row's lists lie apart from a block -/
def ApartD (v : Value) (e : OwnE) (d : TellD) : Prop :=
  (0 < d.links.length → ∀ i, (Value.slice e.p5 e.n5 e.c5).ownBlock = some i → ¬ v.ownBlock = some i) ∧ (0 < d.nums.length → ∀ i, (Value.slice e.p7 e.n7 e.c7).ownBlock = some i → ¬ v.ownBlock = some i)
def FromP15 (zs : List (OwnE × TellD)) (w : World) (e : Ending) (w' : World) : Prop :=
  ∃ (zo : List (OwnE × TellD)) (p : Option Addr) (c : Nat), e = .returned (.slice p zo.length c) ∧ RowsAt 10 OwnE.vals w' (.slice p zo.length c) (zo.map (·.1)) ∧ zo.map (·.2) = zs.map (·.2) ∧ (∀ z ∈ zo, OwnOf w' z.1 z.2) ∧ Keeps (fun _ => False) w w'
set_option maxRecDepth 100000 in
set_option maxHeartbeats 8000000 in
theorem advFrom_any (v : Value) (zs : List (OwnE × TellD)) (w : World) (hv : Hid (RowsAt 10 OwnE.vals w v (zs.map (·.1)))) (hl : zs.length ≤ 1000) (hz : Hid (∀ z ∈ zs, OwnOf w z.1 z.2 ∧ z.2.links.length ≤ 1000 ∧ z.2.nums.length ≤ 1000)) :
    Calls Tryz.prog 12 #[v] w (FromP15 zs w) := by
  obtain ⟨p, c, rfl⟩ := hv.out.slice
  rw [List.length_map] at hv ⊢
  obtain ⟨i1, hj0, hj1, hj2, hj3⟩ := ref15OwnAll
  go_enter Tryz.func12, Tryz.ntmps12
  go_wp2_with fail
  have hO0 : Hid (OwnR 96 10 OwnE.vals w w (.slice none 0 0) (([] : List (OwnE × TellD)).map (·.1))) := Lib.hid (OwnR.nil _ _ (Nat.le_refl _))
  go_loopw [4, 3] (fun iv ov wr => ∃ (k : Nat) (zo : List (OwnE × TellD)) (q : Option Addr) (d : Nat), k ≤ zs.length ∧ zo.length = k ∧ iv = .int .i64 k ∧ ov = .slice q k d ∧ Hid (OwnR 96 10 OwnE.vals w wr (.slice q k d) (zo.map (·.1))) ∧ Hid (zo.map (·.2) = (zs.take k).map (·.2)) ∧ Hid (∀ z ∈ zo, OwnOf wr z.1 z.2 ∧ ApartD (.slice q k d) z.1 z.2) ∧ Hid (Keeps (fun _ => False) w wr)) (fun iv _ _ => zs.length - (intOf iv).toNat)
  case atStart => exact ⟨0, [], none, 0, by omega, rfl, rfl, rfl, hO0, Lib.hid rfl, Lib.hid (fun z h => by cases h), Lib.hid (Keeps.refl _ _)⟩
  case round =>
    obtain ⟨k, zo, q, d, hk, hzk, rfl, rfl, hO, hE, hA, hK⟩ := hrel
    by_cases hkl : k < zs.length
    · obtain ⟨⟨⟨ar, ty, ix, me, p5, n5, c5, mk, p7, n7, c7⟩, D⟩, hx⟩ : ∃ x, zs[k]? = some x := ⟨_, List.getElem?_eq_getElem hkl⟩
      obtain ⟨g, o, rfl, hrow0⟩ := hv.out.open (by rw [List.length_map]; omega)
      have hrow1 := hrow0 k (OwnE.mk ar ty ix me p5 n5 c5 mk p7 n7 c7) (by rw [List.getElem?_map, hx]; rfl)
      obtain ⟨hx1, hx2, hx3⟩ := hz.out _ (List.mem_of_getElem? hx)
      have hrow := Lib.hid (hK.out.rangeAt hrow1 id)
      have hgw : Hid (¬ w.heap.size ≤ g) := Lib.hid (by have h3 : g < w.heap.size := World.block_lt_of_cell? w _ (hrow1 0 _ rfl); omega)
      have hE2 : Hid (∀ e : OwnE, (zo ++ [(e, D)]).map (·.2) = (zs.take (k + 1)).map (·.2)) := Lib.hid (fun e => by rw [List.take_add_one, hx, List.map_append, List.map_append, hE.out]; rfl)
      have hx2 : D.links.length ≤ 1000 := hx2
      have hx3 : D.nums.length ≤ 1000 := hx3
      have hD := Lib.hid hx1
      have q5 : n5 = D.links.length := hx1.n5
      have q7 : n7 = D.nums.length := hx1.n7
      have hL1 := Lib.hid (hx1.links.keep hK.out)
      have hN1 := Lib.hid (hx1.nums.keep hK.out)
      subst q5 q7
      have m1 : (0 : Int) ≤ (k : Int) := by omega
      have m2 : (k : Int) < (zs.length : Int) := by omega
      clear hrow0 hrow1 hx hE hx1
      go_upto_region 5 with fail
      refine wp_region_noPanic ?_
      refine wp_region_held_drew (S := (fun W => Keeps (fun i => w.heap.size ≤ i) wr W)) (by kernel_rfl) (((Keeps.refl _ _).drew)) (fun hHeld => ?_)
      have hKd := Lib.hid (hK.out.trans (Keeps.refl (fun _ => False) wr).drew)
      have kd := (Keeps.refl (fun _ => False) wr).drew
      have hOd := Lib.hid (hO.out.keep kd (fun _ _ f => f))
      have hAd : Hid (∀ z ∈ zo, OwnOf wr.drew z.1 z.2 ∧ ApartD (.slice q k d) z.1 z.2) := Lib.hid (fun z h => ⟨(hA.out z h).1.keepF kd (fun _ _ _ f => f) (fun _ _ _ f => f), (hA.out z h).2⟩)
      have hLd := Lib.hid (hL1.out.keep kd)
      have hNd := Lib.hid (hN1.out.keep kd)
      clear kd hO hA hL1 hN1
      generalize wr.drew = W2 at hHeld hKd hOd hAd hLd hNd ⊢
      refine tk 0 rfl ?_
      refine tk 1 rfl ?_
      refine tk 2 rfl ?_
      refine tk 3 rfl ?_
      refine tk 4 rfl ?_
      refine tkL 5 rfl (yieldsIf_load_cell (by rfl) 40 (.tmp 15) rfl g (o + k * 10 + 0) rfl (.int .u32 ar) (fun _ s => s.rangeAt hrow.out hgw.out 0 _ rfl) (fun w s => load_u32 w _ _ _ s)) ?_
      refine tk 6 rfl ?_
      refine tk 7 rfl ?_
      refine tk 8 rfl ?_
      refine tk 9 rfl ?_
      refine tkL 10 rfl (yieldsIf_load_mid (by rfl) 75 (.tmp 20) rfl g (o + k * 10 + 1) rfl [.int .i64 0, .int .i64 ty, .int .u32 ix, .int .u32 me, .int .i64 (-2147483647), .slice p5 D.links.length c5, .int .u32 mk, .slice p7 D.nums.length c7, .int .i64 0] _ (fun _ s => fun j u hu => by have := s.rangeAt hrow.out hgw.out (j + 1) u hu; rw [Nat.add_assoc _ 1 j, Nat.add_comm 1 j]; exact this) Tryz.underlying75 rfl lsaInfoF) ?_
      refine stepL 11 rfl (by kernel_rfl) (fun K hK => ?_)
      go_simp
      (refine (lwFrom_f 0 ty (-2147483647) 0 ix me mk D.links D.nums p5 p7 c5 c7 W2 hLd hNd (by omega) (by omega)).mono ?_; rintro e W3 ⟨⟨r5, d5, r7, d7, rfl, hL3, hN3, hf5, hf7⟩, k3⟩)
      go_wp2_with fail
      refine hK.out _ _ ((hHeld.trans (k3.mono (fun _ f => f.elim)))) (fun hHeld => ?_)
      clear hK K
      try simp only [Act.put, sA, sZ, sS]
      have kA := k3.alloc (.cells #[.int .u32 ar, .int .i64 0, .int .i64 ty, .int .u32 ix, .int .u32 me, .int .i64 (-2147483647), .slice r5 D.links.length d5, .int .u32 mk, .slice r7 D.nums.length d7, .int .i64 0] 96)
      have hT9 : Hid (OwnR 96 10 OwnE.vals w (W3.alloc (.cells #[.int .u32 ar, .int .i64 0, .int .i64 ty, .int .u32 ix, .int .u32 me, .int .i64 (-2147483647), .slice r5 D.links.length d5, .int .u32 mk, .slice r7 D.nums.length d7, .int .i64 0] 96)) (.slice q k d) (zo.map (·.1))) := Lib.hid (hOd.out.keep kA (fun _ _ f => f))
      have hKA := Lib.hid kA
      have hFs := Lib.hid (And.intro hf5 hf7)
      have hL3' := Lib.hid hL3
      have hN3' := Lib.hid hN3
      have hsz := Lib.hid k3.size
      clear kA k3 hL3 hN3 hf5 hf7 hLd hNd
      refine tk 12 rfl ?_
      refine stepL 13 rfl (by kernel_rfl) (fun K hK => ?_)
      go_simp
      refine hK.out _ _ ((hHeld.trans ((Keeps.refl _ _).alloc _))) (fun hHeld => ?_)
      clear hK K
      try simp only [Act.put, sA, sZ, sS]
      refine stepL 14 rfl (by kernel_rfl) (fun K hK => ?_)
      rw [if_pos (by rfl)]
      (refine wp_append_r (.tmp 11) (.tmp 24) 34 96 rfl i1 _ 104 Tryz.underlying34 hj0 hj1 hj2 hj3 rfl (by decide) (by decide) ownE_len w (.slice q k d) k (zo.map (·.1)) (by rw [List.length_map]; exact hzk) rfl hT9.out _ rfl (OwnE.mk ar ty ix me r5 D.links.length d5 mk r7 D.nums.length d7) (cells_new (w := W3) rfl (OwnE.mk ar ty ix me r5 D.links.length d5 mk r7 D.nums.length d7).vals 96) (ownE_one _) (by omega) ?_; intro q8 d8 W4 hO4 hg4; have hO4' := Lib.hid hO4; have hg4' := Lib.hid hg4; clear hO4 hg4)
      refine hK.out _ _ ((hHeld.trans (hg4'.out.k.mono (G := fun i => w.heap.size ≤ i) (fun i e => .inl (hT9.out.2.1 i e))))) (fun hHeld => ?_)
      clear hK K
      try simp only [Act.put, sA, sZ, sS]
      refine tk 15 rfl ?_
      refine wpAnyH_done (by kernel_rfl) (NoPanic.normal ?_) _
      have hold : ∀ i, (Value.slice q k d).ownBlock = some i → i < W2.heap.size := fun i e => by
        obtain ⟨c1, r1, h⟩ := hOd.out.type_ i e
        exact (Array.getElem?_eq_some_iff.1 h).1
      have hs3 : W2.heap.size ≤ W3.heap.size := hsz.out
      have hs4 : (W3.alloc (.cells #[.int .u32 ar, .int .i64 0, .int .i64 ty, .int .u32 ix, .int .u32 me, .int .i64 (-2147483647), .slice r5 D.links.length d5, .int .u32 mk, .slice r7 D.nums.length d7, .int .i64 0] 96)).heap.size = W3.heap.size + 1 := by simp
      have hnew : ∀ j, (Value.slice q8 (k + 1) d8).ownBlock = some j → (Value.slice q k d).ownBlock = some j ∨ W3.heap.size + 1 ≤ j := fun j e => by
        have h := hg4'.out.s j e
        rwa [hs4] at h
      have hA4 : Hid (∀ z ∈ zo ++ [((OwnE.mk ar ty ix me r5 D.links.length d5 mk r7 D.nums.length d7), D)], OwnOf W4 z.1 z.2 ∧ ApartD (.slice q8 (k + 1) d8) z.1 z.2) := Lib.hid (fun z hz => by
        rcases List.mem_append.1 hz with h | h
        · obtain ⟨h1, h2, h3⟩ := hAd.out z h
          refine ⟨(h1.keepF hKA.out (fun _ _ _ f => f) (fun _ _ _ f => f)).keepF hg4'.out.k h2 h3, fun h0 i e e2 => ?_, fun h0 i e e2 => ?_⟩
          · have hi := LinksAt.lt (by rw [h1.n5] at *; exact h1.links) h0 i _ _ e
            rcases hnew i e2 with h | h
            · exact h2 h0 i e h
            · omega
          · have hi := NumsAt.lt h1.nums h0 i _ _ e
            rcases hnew i e2 with h | h
            · exact h3 h0 i e h
            · omega
        · rw [List.mem_singleton] at h
          subst h
          have hL4 := hL3'.out.keep (Keeps.refl (fun _ => False) W3 |>.alloc (.cells #[.int .u32 ar, .int .i64 0, .int .i64 ty, .int .u32 ix, .int .u32 me, .int .i64 (-2147483647), .slice r5 D.links.length d5, .int .u32 mk, .slice r7 D.nums.length d7, .int .i64 0] 96))
          have hN4 := hN3'.out.keep (Keeps.refl (fun _ => False) W3 |>.alloc (.cells #[.int .u32 ar, .int .i64 0, .int .i64 ty, .int .u32 ix, .int .u32 me, .int .i64 (-2147483647), .slice r5 D.links.length d5, .int .u32 mk, .slice r7 D.nums.length d7, .int .i64 0] 96))
          have hd := hD.out
          refine ⟨⟨hd.area, hd.type, hd.id, hd.own_, hd.mask, rfl, rfl, RowsAt.keepF hL4 hg4'.out.k (fun _ i e f => ?_), NumsAt.keepF hN4 hg4'.out.k (fun _ i e f => ?_)⟩, fun h0 i e e2 => ?_, fun h0 i e e2 => ?_⟩
          · have h1 := hFs.out.1 i _ _ e
            have h2 := hold i f
            omega
          · have h1 := hFs.out.2 i _ _ e
            have h2 := hold i f
            omega
          · have h1 := hFs.out.1 i _ _ e
            have h3 := LinksAt.lt hL3'.out h0 i _ _ e
            rcases hnew i e2 with h | h
            · have := hold i h; omega
            · omega
          · have h1 := hFs.out.2 i _ _ e
            have h3 := NumsAt.lt hN3'.out h0 i _ _ e
            rcases hnew i e2 with h | h
            · have := hold i h; omega
            · omega)
      have hEk := hE2.out (OwnE.mk ar ty ix me r5 D.links.length d5 mk r7 D.nums.length d7)
      have hKk := Lib.hid ((hKd.out.trans hKA.out).trans' hg4'.out.k (fun i e => .inr (hT9.out.2.1 i e)))
      have hOk : Hid (OwnR 96 10 OwnE.vals w W4 (.slice q8 (k + 1) d8) ((zo ++ [((OwnE.mk ar ty ix me r5 D.links.length d5 mk r7 D.nums.length d7), D)]).map (·.1))) := Lib.hid (by rw [List.map_append]; exact hO4'.out)
      clear hold hnew hs3 hs4 hHeld hT9 hKA hFs hL3' hN3' hg4' hO4' hAd hOd hKd hD
      go_wp2_with fail
      exact ⟨⟨k + 1, zo ++ [((OwnE.mk ar ty ix me r5 D.links.length d5 mk r7 D.nums.length d7), D)], q8, d8, by omega, by simp; omega, by go_num, rfl, hOk, Lib.hid hEk, hA4, hKk⟩, by simp [intOf]; omega⟩
    · go_wp2_with fail
      go_ret
      obtain rfl : k = zs.length := by omega
      have hE' := hE.out
      rw [List.take_length] at hE'
      have hR := hO.out.at ownE_len
      exact ⟨zo, q, d, by rw [hzk]; rfl, by rw [hzk]; exact hR, hE', fun z h => (hA.out z h).1, hK.out⟩
end Go.Proofs.YtialookpnoaogaaGreat
/- Of adv: the document's ahead. -/
set_option linter.unusedVariables false
set_option linter.unusedSimpArgs false
namespace Go.Proofs.YtialookpnoaogaaGreat
open Go.RowKit

theorem keyInfo15 : (Tryz.prog.info? 91).map (·.size) = some 3 := by kernel_rfl
theorem blk_three {w : World} {g : Nat} {t : TypeId} {p q r : Value} (h : BlkAt w g t [p, q, r]) (a b c : Value) : BlkAt (w.setCells g 0 [a, b, c]) g t [a, b, c] := ((h.set 0 a).set 1 b).set 2 c
theorem two_keys {W1 : World} {z1 z2 z3 a b c d e f : Value} {t : TypeId} {i j : Nat} (hij : i = W1.heap.size ∧ j = W1.heap.size + 1 ∨ j = W1.heap.size ∧ i = W1.heap.size + 1) :
    BlkAt ((W1.alloc (.cells #[z1, z2, z3] t)).alloc (.cells #[z1, z2, z3] t)) i t [z1, z2, z3] ∧ BlkAt (((W1.alloc (.cells #[z1, z2, z3] t)).alloc (.cells #[z1, z2, z3] t)).setCells i 0 [a, b, c]) j t [z1, z2, z3]
    ∧ BlkAt ((((W1.alloc (.cells #[z1, z2, z3] t)).alloc (.cells #[z1, z2, z3] t)).setCells i 0 [a, b, c]).setCells j 0 [d, e, f]) i t [a, b, c] ∧ BlkAt ((((W1.alloc (.cells #[z1, z2, z3] t)).alloc (.cells #[z1, z2, z3] t)).setCells i 0 [a, b, c]).setCells j 0 [d, e, f]) j t [d, e, f]
    ∧ Keeps (fun _ => False) W1 ((((W1.alloc (.cells #[z1, z2, z3] t)).alloc (.cells #[z1, z2, z3] t)).setCells i 0 [a, b, c]).setCells j 0 [d, e, f]) := by
  have h1 := (BlkAt.new W1 t [z1, z2, z3]).keep ((Keeps.refl (fun _ => False) (W1.alloc (.cells [z1, z2, z3].toArray t))).alloc (.cells [z1, z2, z3].toArray t)) id
  have h2 := BlkAt.new (W1.alloc (.cells [z1, z2, z3].toArray t)) t [z1, z2, z3]
  rw [show (W1.alloc (.cells [z1, z2, z3].toArray t)).heap.size = W1.heap.size + 1 by simp] at h2
  have k := ((Keeps.refl (fun _ => False) W1).alloc (.cells [z1, z2, z3].toArray t)).alloc (.cells [z1, z2, z3].toArray t)
  generalize (W1.alloc (.cells [z1, z2, z3].toArray t)).alloc (.cells [z1, z2, z3].toArray t) = W2 at h1 h2 k
  have hi : BlkAt W2 i t [z1, z2, z3] := by rcases hij with ⟨rfl, -⟩ | ⟨-, rfl⟩ <;> assumption
  have hj : BlkAt W2 j t [z1, z2, z3] := by rcases hij with ⟨-, rfl⟩ | ⟨rfl, -⟩ <;> assumption
  have hne : i ≠ j := by omega
  have k1 : Keeps (fun q => q = i) W2 (W2.setCells i 0 [a, b, c]) := Keeps.setCells (F := fun q => q = i) (.inl rfl) _ _ _ (Keeps.refl _ _)
  have k2 : Keeps (fun q => q = j) (W2.setCells i 0 [a, b, c]) ((W2.setCells i 0 [a, b, c]).setCells j 0 [d, e, f]) := Keeps.setCells (F := fun q => q = j) (.inl rfl) _ _ _ (Keeps.refl _ _)
  have h3 := hj.keep k1 (fun e => hne e.symm)
  refine ⟨hi, h3, (blk_three hi a b c).keep k2 hne, blk_three h3 d e f, ?_⟩
  exact (k.trans' k1 (fun q e => .inr (by omega))).trans' k2 (fun q e => .inr (by omega))
def aheadB (x y : OwnE) : Bool := if x.area ≠ y.area then decide (x.area < y.area) else if x.type ≠ y.type then decide (x.type < y.type) else if x.me ≠ y.me then decide (x.me < y.me) else decide (x.id < y.id)
set_option maxRecDepth 100000 in
set_option maxHeartbeats 8000000 in
theorem ref15Ahead_any (x y : OwnE) (w : World) : Calls Tryz.prog 32 #[.agg x.vals.toArray, .agg y.vals.toArray] w (NewRes (.bool (aheadB x y)) w) := by
  obtain ⟨z, hz⟩ : ∃ z, aheadB x y = z := ⟨_, rfl⟩
  rw [hz]
  obtain ⟨X, hX⟩ : ∃ X, x.vals = X := ⟨_, rfl⟩
  obtain ⟨Y, hY⟩ : ∃ Y, y.vals = Y := ⟨_, rfl⟩
  have hx : Hid (X[0]? = some (.int .u32 x.area) ∧ X.length = 10 ∧ (X.drop 2).take 3 = [.int .i64 x.type, .int .u32 x.id, .int .u32 x.me]) := Lib.hid (by rw [← hX]; exact ⟨rfl, rfl, rfl⟩)
  have hy : Hid (Y[0]? = some (.int .u32 y.area) ∧ Y.length = 10 ∧ (Y.drop 2).take 3 = [.int .i64 y.type, .int .u32 y.id, .int .u32 y.me]) := Lib.hid (by rw [← hY]; exact ⟨rfl, rfl, rfl⟩)
  rw [hX, hY]
  have hbX := BlkAt.new w 96 X
  have kX := (Keeps.refl (fun _ => False) w).alloc (.cells X.toArray 96)
  have hbY := BlkAt.new (w.alloc (.cells X.toArray 96)) 96 Y
  rw [show (w.alloc (.cells X.toArray 96)).heap.size = w.heap.size + 1 by simp] at hbY
  have kY := (Keeps.refl (fun _ => False) (w.alloc (.cells X.toArray 96))).alloc (.cells Y.toArray 96)
  have hbX2 := hbX.keep kY id
  have c1 := hbX2.cell 0 _ hx.out.1
  have c2 := hbY.cell 0 _ hy.out.1
  have hk0 := Lib.hid (kX.trans kY)
  have hB1 := Lib.hid hbX2
  have hB2 := Lib.hid hbY
  clear hX hY hbX kX kY hbX2 hbY
  go_enter Tryz.func32, Tryz.ntmps32
  go_upto_region 1 with fail
  generalize hW0 : (w.alloc (.cells X.toArray 96)).alloc (.cells Y.toArray 96) = W0 at hB1 hB2 c1 c2 hk0 ⊢
  clear hW0
  by_cases ha : x.area = y.area
  · have z1 : ((x.area : Int) != (y.area : Int)) = false := by simp [ha]
    go_upto_region 3 with fail
    have hr1 : Hid (∀ W, BlkAt W w.heap.size 96 X → W.rangeAt w.heap.size 2 [.int .i64 x.type, .int .u32 x.id, .int .u32 x.me]) := Lib.hid (fun W h => by
      rw [← hx.out.2.2]
      intro j u hu
      rw [List.getElem?_take] at hu
      split at hu
      · rw [List.getElem?_drop] at hu
        exact h.cell (2 + j) u hu
      · cases hu)
    have hr2 : Hid (∀ W, BlkAt W (w.heap.size + 1) 96 Y → W.rangeAt (w.heap.size + 1) 2 [.int .i64 y.type, .int .u32 y.id, .int .u32 y.me]) := Lib.hid (fun W h => by
      rw [← hy.out.2.2]
      intro j u hu
      rw [List.getElem?_take] at hu
      split at hu
      · rw [List.getElem?_drop] at hu
        exact h.cell (2 + j) u hu
      · cases hu)
    refine wp_region_noPanic ?_
    refine wp_region_held_drew (S := (fun W => BlkAt W w.heap.size 96 X ∧ BlkAt W (w.heap.size + 1) 96 Y)) (by kernel_rfl) ((⟨hB1.out.keep ((Keeps.refl (fun _ => False) W0).drew) id, hB2.out.keep ((Keeps.refl (fun _ => False) W0).drew) id⟩)) (fun hHeld => ?_)
    have hk1 := Lib.hid (hk0.out.trans ((Keeps.refl (fun _ => False) W0).drew))
    generalize W0.drew = W1 at hHeld hk1 ⊢
    have hlt : Hid (w.heap.size + 1 < W1.heap.size) := Lib.hid (World.block_lt_of_cell? _ _ (hHeld.2.cell 0 _ hy.out.1))
    clear hk0 hB1 hB2 c1 c2
    refine tk 0 rfl ?_
    refine tk 1 rfl ?_
    refine tkL 2 rfl (yieldsIf_load_mid (by rfl) 91 (.tmp 18) rfl w.heap.size 2 rfl [.int .i64 x.type, .int .u32 x.id, .int .u32 x.me] _ (fun _ s => hr1.out _ s.1) Tryz.underlying91 rfl keyInfo15) ?_
    refine tk 3 rfl ?_
    refine tk 4 rfl ?_
    refine tkL 5 rfl (yieldsIf_load_mid (by rfl) 91 (.tmp 21) rfl (w.heap.size + 1) 2 rfl [.int .i64 y.type, .int .u32 y.id, .int .u32 y.me] _ (fun _ s => hr2.out _ s.2) Tryz.underlying91 rfl keyInfo15) ?_
    have kA := Lib.hid (fun (W : World) => (Keeps.refl (fun _ => False) W).alloc (.cells #[.int .i64 0, .int .u32 0, .int .u32 0] 91))
    have kS : Hid (∀ (W : World) (g : Nat) (Z : List Value), Keeps (fun q => q = g) W (W.setCells g 0 Z)) := Lib.hid (fun W g Z => Keeps.setCells (F := fun q => q = g) (.inl rfl) _ _ _ (Keeps.refl _ _))
    refine step2L 6 7 rfl rfl (by kernel_rfl) (fun K hK => ?_) (fun K hK => ?_)
    · skip
      obtain ⟨n, hn⟩ : ∃ i, W1.heap.size = i := ⟨_, rfl⟩
      have hT := Lib.hid (two_keys (W1 := W1) (z1 := .int .i64 0) (z2 := .int .u32 0) (z3 := .int .u32 0) (a := .int .i64 x.type) (b := .int .u32 x.id) (c := .int .u32 x.me) (d := .int .i64 y.type) (e := .int .u32 y.id) (f := .int .u32 y.me) (t := 91) (i := n) (j := n + 1) (.inl ⟨hn.symm, by rw [hn]⟩))
      go_simp
      refine hK.out _ _ ((⟨hHeld.1.keep (kA.out _) id, hHeld.2.keep (kA.out _) id⟩)) (fun hHeld => ?_)
      clear hK K
      try simp only [Act.put, sA, sZ, sS]
      refine stepL 7 rfl (by kernel_rfl) (fun K hK => ?_)
      go_simp
      refine hK.out _ _ ((⟨hHeld.1.keep (kA.out _) id, hHeld.2.keep (kA.out _) id⟩)) (fun hHeld => ?_)
      clear hK K
      try simp only [Act.put, sA, sZ, sS]
      rw [hn] at hlt
      refine stepL 8 rfl (by kernel_rfl) (fun K hK => ?_)
      rw [if_pos (by rfl)]
      (refine wp_store_mid 91 (.tmp 5) (.tmp 19) rfl (n) 0 _ rfl rfl (hT.out.1.there 0 3 (by decide)) keyInfo15 (by simp; exact ⟨rfl, rfl, rfl⟩) ?_)
      refine hK.out _ _ ((⟨hHeld.1.keep (kS.out _ (n) _) (by have := hlt.out; omega), hHeld.2.keep (kS.out _ (n) _) (by have := hlt.out; omega)⟩)) (fun hHeld => ?_)
      clear hK K
      try simp only [Act.put, sA, sZ, sS]
      refine stepL 9 rfl (by kernel_rfl) (fun K hK => ?_)
      rw [if_pos (by rfl)]
      (refine wp_store_mid 91 (.tmp 6) (.tmp 22) rfl (n + 1) 0 _ rfl rfl (hT.out.2.1.there 0 3 (by decide)) keyInfo15 (by simp; exact ⟨rfl, rfl, rfl⟩) ?_)
      refine hK.out _ _ ((⟨hHeld.1.keep (kS.out _ (n + 1) _) (by have := hlt.out; omega), hHeld.2.keep (kS.out _ (n + 1) _) (by have := hlt.out; omega)⟩)) (fun hHeld => ?_)
      clear hK K
      try simp only [Act.put, sA, sZ, sS]
      refine wpAnyH_done (by kernel_rfl) (NoPanic.normal ?_) _
      obtain ⟨-, -, g1, g2, g3⟩ := hT.out
      have hk4 := Lib.hid (hk1.out.trans g3)
      clear hT g3 hHeld
      generalize ((((W1.alloc (.cells #[.int .i64 0, .int .u32 0, .int .u32 0] 91)).alloc (.cells #[.int .i64 0, .int .u32 0, .int .u32 0] 91)).setCells (n) 0 [.int .i64 x.type, .int .u32 x.id, .int .u32 x.me]).setCells (n + 1) 0 [.int .i64 y.type, .int .u32 y.id, .int .u32 y.me]) = W4 at g1 g2 hk4 ⊢
      have x0 := g1.cell 0 _ rfl
      have x1 := g1.cell 1 _ rfl
      have x2 := g1.cell 2 _ rfl
      have y0 := g2.cell 0 _ rfl
      have y1 := g2.cell 1 _ rfl
      have y2 := g2.cell 2 _ rfl
      have hz' := Lib.hid hz
      have ha' := Lib.hid ha
      clear g1 g2 hz ha hn hr1 hr2 hk1 hlt kA kS hx hy
      by_cases h1 : x.type = y.type
      · have z2 : (x.type != y.type) = false := by simp [h1]
        by_cases h2 : x.me = y.me
        · have z3 : ((x.me : Int) != (y.me : Int)) = false := by simp [h2]
          have hzz : Hid (decide (x.id < y.id) = z) := Lib.hid (by rw [← hz'.out]; unfold aheadB; simp [ha'.out, h1, h2])
          clear h1 h2 hz'
          go_wp2_with fail
          go_ret
          exact ⟨by rw [← hzz.out]; rfl, hk4.out⟩
        · have z3 : ((x.me : Int) != (y.me : Int)) = true := by simp; omega
          have hzz : Hid (decide (x.me < y.me) = z) := Lib.hid (by rw [← hz'.out]; unfold aheadB; simp [ha'.out, h1, h2])
          clear h1 h2 hz'
          go_wp2_with fail
          go_ret
          exact ⟨by rw [← hzz.out]; rfl, hk4.out⟩
      · have z2 : (x.type != y.type) = true := by simp [h1]
        have hzz : Hid (decide (x.type < y.type) = z) := Lib.hid (by rw [← hz'.out]; unfold aheadB; simp [ha'.out, h1])
        clear h1 hz'
        go_wp2_with fail
        go_ret
        exact ⟨by rw [← hzz.out]; rfl, hk4.out⟩
    · skip
      obtain ⟨n, hn⟩ : ∃ i, W1.heap.size = i := ⟨_, rfl⟩
      have hT := Lib.hid (two_keys (W1 := W1) (z1 := .int .i64 0) (z2 := .int .u32 0) (z3 := .int .u32 0) (a := .int .i64 x.type) (b := .int .u32 x.id) (c := .int .u32 x.me) (d := .int .i64 y.type) (e := .int .u32 y.id) (f := .int .u32 y.me) (t := 91) (i := n + 1) (j := n) (.inr ⟨hn.symm, by rw [hn]⟩))
      go_simp
      refine hK.out _ _ ((⟨hHeld.1.keep (kA.out _) id, hHeld.2.keep (kA.out _) id⟩)) (fun hHeld => ?_)
      clear hK K
      try simp only [Act.put, sA, sZ, sS]
      refine stepL 6 rfl (by kernel_rfl) (fun K hK => ?_)
      go_simp
      refine hK.out _ _ ((⟨hHeld.1.keep (kA.out _) id, hHeld.2.keep (kA.out _) id⟩)) (fun hHeld => ?_)
      clear hK K
      try simp only [Act.put, sA, sZ, sS]
      rw [hn] at hlt
      refine stepL 8 rfl (by kernel_rfl) (fun K hK => ?_)
      rw [if_pos (by rfl)]
      (refine wp_store_mid 91 (.tmp 5) (.tmp 19) rfl (n + 1) 0 _ rfl rfl (hT.out.1.there 0 3 (by decide)) keyInfo15 (by simp; exact ⟨rfl, rfl, rfl⟩) ?_)
      refine hK.out _ _ ((⟨hHeld.1.keep (kS.out _ (n + 1) _) (by have := hlt.out; omega), hHeld.2.keep (kS.out _ (n + 1) _) (by have := hlt.out; omega)⟩)) (fun hHeld => ?_)
      clear hK K
      try simp only [Act.put, sA, sZ, sS]
      refine stepL 9 rfl (by kernel_rfl) (fun K hK => ?_)
      rw [if_pos (by rfl)]
      (refine wp_store_mid 91 (.tmp 6) (.tmp 22) rfl (n) 0 _ rfl rfl (hT.out.2.1.there 0 3 (by decide)) keyInfo15 (by simp; exact ⟨rfl, rfl, rfl⟩) ?_)
      refine hK.out _ _ ((⟨hHeld.1.keep (kS.out _ (n) _) (by have := hlt.out; omega), hHeld.2.keep (kS.out _ (n) _) (by have := hlt.out; omega)⟩)) (fun hHeld => ?_)
      clear hK K
      try simp only [Act.put, sA, sZ, sS]
      refine wpAnyH_done (by kernel_rfl) (NoPanic.normal ?_) _
      obtain ⟨-, -, g1, g2, g3⟩ := hT.out
      have hk4 := Lib.hid (hk1.out.trans g3)
      clear hT g3 hHeld
      generalize ((((W1.alloc (.cells #[.int .i64 0, .int .u32 0, .int .u32 0] 91)).alloc (.cells #[.int .i64 0, .int .u32 0, .int .u32 0] 91)).setCells (n + 1) 0 [.int .i64 x.type, .int .u32 x.id, .int .u32 x.me]).setCells (n) 0 [.int .i64 y.type, .int .u32 y.id, .int .u32 y.me]) = W4 at g1 g2 hk4 ⊢
      have x0 := g1.cell 0 _ rfl
      have x1 := g1.cell 1 _ rfl
      have x2 := g1.cell 2 _ rfl
      have y0 := g2.cell 0 _ rfl
      have y1 := g2.cell 1 _ rfl
      have y2 := g2.cell 2 _ rfl
      have hz' := Lib.hid hz
      have ha' := Lib.hid ha
      clear g1 g2 hz ha hn hr1 hr2 hk1 hlt kA kS hx hy
      by_cases h1 : x.type = y.type
      · have z2 : (x.type != y.type) = false := by simp [h1]
        by_cases h2 : x.me = y.me
        · have z3 : ((x.me : Int) != (y.me : Int)) = false := by simp [h2]
          have hzz : Hid (decide (x.id < y.id) = z) := Lib.hid (by rw [← hz'.out]; unfold aheadB; simp [ha'.out, h1, h2])
          clear h1 h2 hz'
          go_wp2_with fail
          go_ret
          exact ⟨by rw [← hzz.out]; rfl, hk4.out⟩
        · have z3 : ((x.me : Int) != (y.me : Int)) = true := by simp; omega
          have hzz : Hid (decide (x.me < y.me) = z) := Lib.hid (by rw [← hz'.out]; unfold aheadB; simp [ha'.out, h1, h2])
          clear h1 h2 hz'
          go_wp2_with fail
          go_ret
          exact ⟨by rw [← hzz.out]; rfl, hk4.out⟩
      · have z2 : (x.type != y.type) = true := by simp [h1]
        have hzz : Hid (decide (x.type < y.type) = z) := Lib.hid (by rw [← hz'.out]; unfold aheadB; simp [ha'.out, h1])
        clear h1 hz'
        go_wp2_with fail
        go_ret
        exact ⟨by rw [← hzz.out]; rfl, hk4.out⟩
  · have z1 : ((x.area : Int) != (y.area : Int)) = true := by simp; omega
    have hzz : Hid (decide (x.area < y.area) = z) := Lib.hid (by rw [← hz]; unfold aheadB; simp [ha])
    clear ha hz
    go_wp2_with fail
    go_ret
    exact ⟨by rw [← hzz.out]; rfl, hk0.out⟩
end Go.Proofs.YtialookpnoaogaaGreat
