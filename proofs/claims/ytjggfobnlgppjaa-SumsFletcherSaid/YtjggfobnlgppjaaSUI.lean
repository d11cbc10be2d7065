/- SumsFletcher, walked. -/
import Derived.Test.YtjggfobnlgppjaaSUG
import Derived.Deep.DeepCutAuto
namespace Go.Proofs.Ytjggfobnlgppjaa
open Go.RowKit

theorem u64_wrap (n : Int) : IntKind.u64.wrap n = n % 18446744073709551616 := by
  unfold IntKind.wrap
  have h1 : IntKind.u64.signed = false := rfl
  have h2 : (2 : Int) ^ IntKind.u64.bits = 18446744073709551616 := rfl
  simp [h1, h2]
theorem wrap64_lo (n : Int) : -9223372036854775808 ≤ wrap64 n := by unfold wrap64; omega
theorem wrap64_hi (n : Int) : wrap64 n ≤ 9223372036854775807 := by unfold wrap64; omega
/-- a row of the call's own may be written -/
theorem OwnB.write {w0 w : World} {q : Option Addr} {n c : Nat} {xs : List UInt8} (h : OwnB w0 w (.slice q n c) xs) (h0 : 0 < xs.length) :
    ∃ g, q = some ⟨g, 0, none⟩ ∧ w0.heap.size ≤ g ∧ (∀ k, (hk : k < xs.length) → w.cell? ⟨g, k, none⟩ = some (.int .u8 (xs[k]).toNat) ∧ w.frozen? ⟨g, k, none⟩ = false) ∧
      ∀ (k : Nat) (b : UInt8), OwnB w0 (w.setCell ⟨g, k, none⟩ (.int .u8 b.toNat)) (.slice q n c) (xs.set k b) := by
  obtain ⟨⟨h1, h2⟩, h3, h4⟩ := h
  rcases h2 with ⟨e, _⟩ | ⟨g, cap, cur, e, _, hg, hn, hm, hs, ht⟩
  · injection e with e1 e2 e3; omega
  · injection e with e1 e2 e3
    subst e1; subst e3
    have hl : xs.length * 1 = (xs.map bv).length := by simp
    refine ⟨g, rfl, h3 g rfl, fun k hk => ⟨?_, ?_⟩, fun k b => ⟨⟨by simp, .inr ⟨g, c, cur.setIfInBounds k (.int .u8 b.toNat), by simpa using e2, Nat.zero_le _, heap_put hg k _, by simpa using hn, hm, by simpa using hs, ?_⟩⟩, h3, by simp only [World.setCell, Array.size_modify]; exact h4⟩⟩
    · have hk2 : k < cur.size := by rw [hs]; omega
      have : cur.toList[k]? = some (.int .u8 (xs[k]).toNat) := by
        have e4 : (cur.toList.take (xs.length * 1))[k]? = (xs.map bv)[k]? := by rw [ht]
        rw [List.getElem?_take, if_pos (by omega)] at e4
        rw [e4]; simp [hk, bv]
      simp only [World.cell?, hg]
      simpa using this
    · simp [World.frozen?, hg]
    · simp only [List.length_set, Array.toList_setIfInBounds, List.map_set]
      rw [List.take_set, ht]; rfl

set_option maxRecDepth 100000 in
set_option maxHeartbeats 4000000 in
theorem sumsFletcher_law (bw : Value) (l : List UInt8) (at' turn : Int) (w : World) (h : Hid (BytesAt w bw l)) (hl : l.length ≤ 9223372036854775807) (ha1 : -9223372036854775808 ≤ at') (ha2 : at' ≤ 9223372036854775807) (ht1 : -9223372036854775808 ≤ turn) (ht2 : turn ≤ 9223372036854775807) :
    Calls Try.prog 4 #[bw, .int .i64 at', .int .i64 turn] w fun e w' => e = .returned (.bool true) ∧ Keeps (fun _ => False) w w' := by
  obtain ⟨i0, hi0, hz0, hz1, hz2⟩ := info_parts u8InfoAll
  obtain ⟨p, c, rfl, hp0, hc0, hb0⟩ := h.out
  have key : ∀ (M : Nat) (x : List UInt8), x.length = M → M ≤ 300 → BytesAt w (.slice p M c) x → Hid (BytesAt (w.alloc (.cells #[] 5)) (.slice p M c) x ∧ x.length = M) := fun M x e _ hB => Lib.hid ⟨hB.keep ((Keeps.refl _ _).alloc _), e⟩
  have hcut0 := Lib.hid (cut300 h.out)
  have key' := Lib.hid key
  clear hp0 hb0 h key
  go_enter Try.func4, Try.ntmps4
  go_upto_region 1 with fail
  go_cut [0] (fun bw' wx => ∃ q d x, bw' = .slice q x.length d ∧ x.length ≤ 300 ∧ Hid (own1 w wx (.slice q x.length d) x))
  case first =>
    rcases hcut0.out with ⟨h3, x, hxl, hx⟩ | ⟨h0, h3, hx⟩ | ⟨hnil, hx⟩
    · have hB1 := key'.out 300 x hxl (by omega) hx
      have hx3 : x.length ≤ 300 := by omega
      clear key' hcut0 hx hxl
      go_wp2_with ((with_reducible refine at_slot 20 ?_); refine wpList_append_b rfl (.tmp 14) (.tmp 19) 22 rfl i0 Try.underlying22 hi0 hz0 hz1 hz2 w _ [] rfl (OwnB.empty w w (Nat.le_refl _)) _ rfl x hB1.out.1 (by simp; omega) ?_; intro q d w1 hO1 hG1; have hO := own_first hO1 hG1; clear hO1 hG1)
      go_meet
      case rel => exact ⟨q, d, x, by simp, hx3, hO⟩
    · obtain ⟨x, hxe⟩ : ∃ x, x = l := ⟨_, rfl⟩
      have hB1 := key'.out l.length x (by rw [hxe]) h3 (by rw [hxe]; exact hx)
      have hx3 : x.length ≤ 300 := by rw [hxe]; exact h3
      clear key' hcut0 hx hxe
      go_wp2_with ((with_reducible refine at_slot 20 ?_); refine wpList_append_b rfl (.tmp 14) (.tmp 19) 22 rfl i0 Try.underlying22 hi0 hz0 hz1 hz2 w _ [] rfl (OwnB.empty w w (Nat.le_refl _)) _ rfl x hB1.out.1 (by simp; omega) ?_; intro q d w1 hO1 hG1; have hO := own_first hO1 hG1; clear hO1 hG1)
      go_meet
      case rel => exact ⟨q, d, x, by simp, hx3, hO⟩
    · obtain ⟨x, hxe⟩ : ∃ x : List UInt8, x = [] := ⟨_, rfl⟩
      have hB1 := key'.out 0 x (by rw [hxe]; rfl) (by omega) (by rw [hxe]; exact hx)
      have hx3 : x.length ≤ 300 := by rw [hxe]; simp
      clear key' hcut0 hx hxe
      subst hnil
      simp only [List.length_nil]
      go_wp2_with ((with_reducible refine at_slot 20 ?_); refine wpList_append_b rfl (.tmp 14) (.tmp 19) 22 rfl i0 Try.underlying22 hi0 hz0 hz1 hz2 w _ [] rfl (OwnB.empty w w (Nat.le_refl _)) _ rfl x hB1.out.1 (by simp; omega) ?_; intro q d w1 hO1 hG1; have hO := own_first hO1 hG1; clear hO1 hG1)
      go_meet
      case rel => exact ⟨q, d, x, by simp, hx3, hO⟩
  case rest =>
    obtain ⟨q, d, x, rfl, hx3, hO⟩ := hcut
    clear hcut0 key'
    go_upto_region 3 with fail
    go_cut [38] (fun kv wx => (∃ b, kv = .bool b ∧ Hid (b = true → 2 < x.length)) ∧ wx = wc)
    case first =>
      go_wp2_with fail
      all_goals (go_meet)
      all_goals exact ⟨⟨_, rfl, Lib.hid (fun e => by first | omega | (cases e))⟩, rfl⟩
    case rest =>
      obtain ⟨⟨b, rfl, hb⟩, rfl⟩ := hcut
      go_upto_if 38 with fail
      go_cut [7] (fun kv wx => (∃ K : Int, -9223372036854775808 ≤ K ∧ K ≤ 9223372036854775807 ∧ kv = .int .i64 K) ∧ wx = wc)
      case first =>
        cases b with
        | true =>
          have h2 := hb.out rfl
          clear hb
          go_wp2_with fail
          go_meet
          case rel => exact ⟨⟨_, wrap64_lo _, wrap64_hi _, rfl⟩, rfl⟩
        | false =>
          clear hb
          go_wp2_with fail
          go_meet
          case rel => exact ⟨⟨_, by omega, by omega, rfl⟩, rfl⟩
      case rest =>
        obtain ⟨⟨K, hK1, hK2, rfl⟩, rfl⟩ := hcut
        clear hb b ha1 ha2
        by_cases hk : K < 0 ∨ (x.length : Int) - 2 < K
        · go_wp2_with fail
          refine (suFletcher_no _ x K hk hK1 hK2 (by omega) _ (Lib.hid hO.out.1.bytes)).mono ?_
          rintro e w' ⟨rfl, rfl⟩
          go_wp2_with fail
          refine (r9Fletcher_no _ x K hk hK1 hK2 (by omega) _ (Lib.hid hO.out.1.bytes)).mono ?_
          rintro e w' ⟨rfl, rfl⟩
          go_wp2_with fail
          refine (known9_any _).mono ?_
          rintro e w3 ⟨rfl, k3⟩
          have hO3 := Lib.hid (hO.out.next k3)
          clear hO k3
          go_wp2_with fail
          refine (suRight_any _ x (by omega) _ (Lib.hid hO3.out.1.bytes)).mono ?_
          rintro e w' ⟨rfl, rfl⟩
          go_wp2_with fail
          refine (r9Right_any _ x (by omega) _ (Lib.hid hO3.out.1.bytes)).mono ?_
          rintro e w' ⟨rfl, rfl⟩
          generalize rightF x = z
          have hzz : (z != z) = false := by simp
          rcases hk with hk | hk
          · go_wp2_with fail
            go_ret
            exact ⟨rfl, hO3.out.2⟩
          · by_cases h0 : K < 0
            · go_wp2_with fail
              go_ret
              exact ⟨rfl, hO3.out.2⟩
            · go_wp2_with fail
              go_ret
              exact ⟨rfl, hO3.out.2⟩
        · obtain ⟨k, rfl⟩ : ∃ k : Nat, K = (k : Int) := ⟨K.toNat, by omega⟩
          have hk2 : k + 2 ≤ x.length := by omega
          clear hk hK1 hK2
          obtain ⟨g, rfl, hg0, hcell, hset⟩ := hO.out.1.write (by omega)
          have hg0' := Lib.hid hg0
          clear hset hcell hg0
          have hcap : x.length ≤ d := by obtain ⟨p, c, e, -, hc, -⟩ := hO.out.1.bytes; injection e with e1 e2 e3; omega
          have hrg : Hid (wc.rangeAt g 0 (x.map bv)) := Lib.hid (by obtain ⟨p, c, e, -, -, hr⟩ := hO.out.1.bytes; obtain ⟨b', o', e', hr'⟩ := hr (by omega); injection e with e1 e2 e3; rw [e'] at e1; injection e1 with e1; injection e1 with e1 e2; subst e1; subst e2; exact hr')
          obtain ⟨X, hX⟩ : ∃ X, X = flX (zed x k) x.length k := ⟨_, rfl⟩
          obtain ⟨Y, hY⟩ : ∃ Y, Y = flY (zed x k) x.length k := ⟨_, rfl⟩
          have lX : X < 255 := by rw [hX]; exact flX_lt ..
          have lY : Y < 255 := by rw [hY]; exact flY_lt ..
          have hX' := Lib.hid hX; have hY' := Lib.hid hY
          clear hX hY
          go_wp2_with fail
          refine (suFletcher_yes g 0 d x k hk2 (by omega) hcap _ hrg).mono ?_
          rintro e w2 ⟨rfl, k2⟩
          have hO2 := Lib.hid (hO.out.next k2)
          have hrg2 := Lib.hid (k2.rangeAt hrg.out id)
          rw [← hX'.out, ← hY'.out]
          clear hO k2 hrg
          go_wp2_with fail
          refine (r9Fletcher_yes g 0 d x k hk2 (by omega) _ hrg2 X Y hX' hY').mono ?_
          rintro e w' ⟨rfl, rfl⟩
          go_wp2_with fail
          refine (known9_any _).mono ?_
          rintro e w3 ⟨rfl, k3⟩
          have hO3 := Lib.hid (hO2.out.next k3)
          clear hO2 k3 hrg2
          go_wp2_with fail
          refine (suRight_any _ x (by omega) _ (Lib.hid hO3.out.1.bytes)).mono ?_
          rintro e w' ⟨rfl, rfl⟩
          go_wp2_with fail
          refine (r9Right_any _ x (by omega) _ (Lib.hid hO3.out.1.bytes)).mono ?_
          rintro e w' ⟨rfl, rfl⟩
          generalize rightF x = z
          have hzz : (z != z) = false := by simp
          obtain ⟨g', e', -, hcell, hset⟩ := hO3.out.1.write (by omega)
          injection e' with e'; injection e' with e'; subst e'
          have c0 := (hcell k (by omega)).1
          have f0 := (hcell k (by omega)).2
          have c1 := (hcell (k + 1) (by omega)).1
          have f1 := (hcell (k + 1) (by omega)).2
          have hset' := Lib.hid hset
          clear hset hcell
          have eX : (UInt8.ofNat X).toNat = X := by simp; omega
          have eY : (UInt8.ofNat Y).toNat = Y := by simp; omega
          have hs1 := hset'.out k (UInt8.ofNat X)
          rw [eX] at hs1
          obtain ⟨g2, e2, -, -, hset2⟩ := hs1.write (by simp; omega)
          injection e2 with e2; injection e2 with e2; subst e2
          have hs2 := hset2 (k + 1) (UInt8.ofNat Y)
          rw [eY] at hs2
          have hk5 : Keeps (fun _ => False) w ((w3.setCell ⟨g, k, none⟩ (.int .u8 X)).setCell ⟨g, k + 1, none⟩ (.int .u8 Y)) := (hO3.out.2.setCell (p := ⟨g, k, none⟩) (.inr hg0'.out) _).setCell (p := ⟨g, k + 1, none⟩) (.inr hg0'.out) _
          obtain ⟨y, hy⟩ : ∃ y, y = (x.set k (UInt8.ofNat X)).set (k + 1) (UInt8.ofNat Y) := ⟨_, rfl⟩
          have hyl : y.length = x.length := by rw [hy]; simp
          have hyr : rightF y = true := by rw [hy]; exact right_with hk2 _ _ (by rw [eX]; exact hX'.out) (by rw [eY]; exact hY'.out)
          rw [← hy] at hs2
          have hO5 := Lib.hid (show own1 w _ (.slice (some ⟨g, 0, none⟩) x.length d) y from ⟨hs2, hk5⟩)
          have hyr' := Lib.hid hyr; have hyl' := Lib.hid hyl
          clear hs1 hset2 hs2 hk5 hy hyl hyr eX eY hX' hY' hset'
          go_upto_region 12 with fail
          clear c0 c1 f0 f1
          generalize (w3.setCell ⟨g, k, none⟩ (.int .u8 X)).setCell ⟨g, k + 1, none⟩ (.int .u8 Y) = w5 at hO5 ⊢
          have eX : ((X : Int) == 255) = false := by rw [beq_eq_false_iff_ne]; omega
          have eY : ((Y : Int) == 255) = false := by rw [beq_eq_false_iff_ne]; omega
          go_wp2_with fail
          refine (suRight_any _ y (by rw [hyl'.out]; omega) _ (Lib.hid hO5.out.1.bytes)).mono ?_
          rintro e w' ⟨rfl, rfl⟩
          rw [hyr'.out]
          obtain ⟨U, hU⟩ : ∃ U : Nat, U = (turn % 18446744073709551616).toNat := ⟨_, rfl⟩
          have hUw : IntKind.u64.wrap turn = (U : Int) := by rw [u64_wrap, hU]; omega
          have lU : U < 18446744073709551616 := by omega
          obtain ⟨i, hi⟩ : ∃ i, i = U % x.length := ⟨_, rfl⟩
          have li : i < x.length := by rw [hi]; exact Nat.mod_lt _ (by omega)
          have hii : (U : Int) % (x.length : Int) = (i : Int) := by rw [hi]; exact (Int.natCast_emod _ _).symm
          clear hU hi
          obtain ⟨g3, e3, -, hcell, hset⟩ := hO5.out.1.write (by rw [hyl'.out]; omega)
          injection e3 with e3; injection e3 with e3; subst e3
          have ci := (hcell i (by rw [hyl'.out]; exact li)).1
          have fi := (hcell i (by rw [hyl'.out]; exact li)).2
          obtain ⟨ob, hob⟩ : ∃ ob, ob = y[i]'(by rw [hyl'.out]; exact li) := ⟨_, rfl⟩
          rw [← hob] at ci
          have lob := ob.toNat_lt
          obtain ⟨m, hm⟩ : ∃ m, m = 1 + U / 1000 % 255 := ⟨_, rfl⟩
          have hmi : 1 + (U : Int) / 1000 % 255 = (m : Int) := by omega
          have lm : m ≤ 255 := by omega
          obtain ⟨nb, hnb⟩ : ∃ nb : UInt8, nb.toNat = ob.toNat ^^^ m := ⟨UInt8.ofNat (ob.toNat ^^^ m), by
            have : ob.toNat ^^^ m < 2 ^ 8 := Nat.xor_lt_two_pow (by omega) (by omega)
            rw [UInt8.toNat_ofNat', Nat.mod_eq_of_lt this]⟩
          have hxor : bits .xor .u8 (ob.toNat : Int) (m : Int) = (nb.toNat : Int) := by rw [hnb]; exact u8_xor_nat _ _ (by omega) (by omega)
          have lnb := nb.toNat_lt
          have hset' := Lib.hid (hset i nb)
          have hrs := Lib.hid (right_set i (by rw [hyl'.out]; exact li) nb hyr'.out)
          rw [← hob] at hrs
          have hm' := Lib.hid hm; have hnb' := Lib.hid hnb; have hob' := Lib.hid hob
          clear hcell hset hm hnb hob
          go_upto_region 17 with fail
          have hk6 : Keeps (fun _ => False) w (w5.setCell ⟨g, i, none⟩ (.int .u8 nb.toNat)) := hO5.out.2.setCell (p := ⟨g, i, none⟩) (.inr hg0'.out) _
          have hO6 := Lib.hid (show own1 w _ (.slice (some ⟨g, 0, none⟩) x.length d) (y.set i nb) from ⟨hset'.out, hk6⟩)
          clear ci fi hset' hk6 hxor
          generalize w5.setCell ⟨g, i, none⟩ (.int .u8 nb.toNat) = w6 at hO6 ⊢
          obtain ⟨g4, e4, -, hcell, -⟩ := hO6.out.1.write (by simp; rw [hyl'.out]; omega)
          injection e4 with e4; injection e4 with e4; subst e4
          have ci := (hcell i (by simp; rw [hyl'.out]; exact li)).1
          rw [List.getElem_set_self] at ci
          clear hcell
          have hres : decide (ob.toNat % 255 = nb.toNat % 255) = ((ob.toNat : Int) % 255 == (nb.toNat : Int) % 255) := by
            rw [Bool.eq_iff_iff, decide_eq_true_eq, beq_iff_eq]; omega
          rw [hres] at hrs
          clear hres
          obtain ⟨z2, hz2⟩ : ∃ z2, z2 = ((ob.toNat : Int) % 255 == (nb.toNat : Int) % 255) := ⟨_, rfl⟩
          rw [← hz2] at hrs
          have hz2' := Lib.hid hz2; clear hz2
          go_quiet ((refine (suRight_any _ (y.set i nb) (by simp; rw [hyl'.out]; omega) _ (Lib.hid (hO6.out.1.bytes.keep ((Keeps.refl _ _).drewN _)))).mono ?_; rintro e w' ⟨rfl, rfl⟩; exact ⟨by rw [hrs.out], _, rfl⟩))
          go_wp2_with fail
          go_ret
          exact ⟨congrArg (fun b => Ending.returned (.bool b)) (show (z2 == ((ob.toNat : Int) % 255 == (nb.toNat : Int) % 255)) = true by rw [← hz2'.out]; simp), hO6.out.2.drewN _⟩
end Go.Proofs.Ytjggfobnlgppjaa
