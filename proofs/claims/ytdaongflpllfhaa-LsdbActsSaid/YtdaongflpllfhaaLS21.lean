/- The document's Tick of a row of Lsas (gen_lma.py writes this). -/
import Derived.Test.YtdaongflpllfhaaLS20
set_option linter.unusedVariables false
set_option linter.unusedSimpArgs false
set_option linter.unusedVariables false
set_option linter.unusedSimpArgs false
namespace Go.Proofs.Ytdaongflpllfhaa
open Go.RowKit

def tickM (m : LsaM) : LsaM := { m with d := tickD m.d }
def endM (ms : List LsaM) : List K3 := endK (ms.map (·.d))
theorem tickM_map (ms : List LsaM) : (ms.map tickM).map (·.d) = (ms.map (·.d)).map tickD := by simp [tickM]
theorem endM_snoc {i : Nat} {ms : List LsaM} {m : LsaM} (h : ms[i]? = some m) : endM (ms.take (i + 1)) = if endsD m.d then endM (ms.take i) ++ [kOf m.d] else endM (ms.take i) := by
  unfold endM
  rw [List.map_take, endK_snoc (d := m.d) (by rw [List.getElem?_map, h]; rfl), List.map_take]
theorem endM_len (i : Nat) (ms : List LsaM) : (endM (ms.take i)).length ≤ i := by
  unfold endM
  rw [List.map_take]
  exact endK_len _ _
theorem load_r10int (w : World) (b o : Nat) (v : Value) (h : w.cell? ⟨b, o, none⟩ = some v) : (loadVar 3 ⟨b, o, none⟩).run Try.prog w = .ok v w := by simp [go_sem, h]
theorem OwnR.apart {α β : Type} {t1 t2 : TypeId} {s1 s2 : Nat} {c1 : α → List Value} {c2 : β → List Value} {w0 w1 w : World} {v1 v2 : Value} {xs : List α} {ys : List β} (h1 : OwnR t1 s1 c1 w0 w v1 xs) (h2 : OwnR t2 s2 c2 w1 w v2 ys) (hne : t1 ≠ t2) : ∀ k, v1.ownBlock = some k → v2.ownBlock = some k → False := fun k e f => by
  rcases h1.1.2 with ⟨e1, -⟩ | ⟨g, cap, cur, e1, -, hg, -⟩
  · rw [e1] at e; simp [Value.ownBlock] at e
  · rcases h2.1.2 with ⟨f1, -⟩ | ⟨g2, cap2, cur2, f1, -, hg2, -⟩
    · rw [f1] at f; simp [Value.ownBlock] at f
    · rw [e1] at e
      rw [f1] at f
      have e : some g = some k := e
      have f : some g2 = some k := f
      injection e with e
      injection f with f
      subst e; subst f
      rw [hg] at hg2
      injection hg2 with hg2
      injection hg2 with _ ht
      exact hne ht
theorem OwnR.lt_own {α : Type} {t sz : Nat} {cv : α → List Value} {w0 w : World} {v : Value} {xs : List α} (h : OwnR t sz cv w0 w v xs) (k : Nat) (e : v.ownBlock = some k) : k < w.heap.size := by
  rcases h.1.2 with ⟨e1, -⟩ | ⟨g, cap, cur, e1, -, hg, -⟩
  · rw [e1] at e; simp [Value.ownBlock] at e
  · rw [e1] at e
    have e : some g = some k := e
    injection e with e
    subst e
    exact (Array.getElem?_eq_some_iff.1 hg).1
set_option maxRecDepth 100000 in
set_option maxHeartbeats 8000000 in
theorem r12Tick_any (v : Value) (ms : List LsaM) (hl : ms.length ≤ 1000) (hage : Hid (∀ m ∈ ms, 0 ≤ m.d.age ∧ m.d.age ≤ 3600)) (w : World) (hv : Hid (RowsAt 9 lsaRow w v ms)) :
    Calls Try.prog 21 #[v] w fun e w' => (∃ u z, e = .returned (.tuple #[u, z]) ∧ OwnR 48 9 lsaRow w w' u (ms.map tickM) ∧ OwnR 45 3 kV w w' z (endM ms)) ∧ Keeps (fun _ => False) w w' := by
  obtain ⟨p, c, e0, hp0, hc0, hr0⟩ := hv.out
  subst e0
  clear hp0 hc0 hr0
  obtain ⟨ik, hik, hkz, hksz, hkby⟩ := info_parts lsaInfoAllR
  obtain ⟨jk, hjk, hjz, hjsz, hjby⟩ := info_parts keyInfoAllR
  go_enter Try.func21, Try.ntmps21
  go_wp2_with fail
  go_loopw [6, 4, 5] (fun iv ov ev wr => ∃ (i : Nat) (q : Option Addr) (d : Nat) (q2 : Option Addr) (d2 : Nat), i ≤ ms.length ∧ iv = .int .i64 i ∧ ov = .slice q i d ∧ ev = .slice q2 (endM (ms.take i)).length d2 ∧ Hid (OwnR 48 9 lsaRow w wr (.slice q i d) ((ms.take i).map tickM)) ∧ Hid (OwnR 45 3 kV w wr (.slice q2 (endM (ms.take i)).length d2) (endM (ms.take i))) ∧ Hid (Keeps (fun _ => False) w wr)) (fun iv _ _ _ => ms.length - (intOf iv).toNat)
  case atStart => exact ⟨0, none, 0, none, 0, by omega, rfl, rfl, rfl, Lib.hid (OwnR.nil _ _ (Nat.le_refl _)), Lib.hid (OwnR.nil _ _ (Nat.le_refl _)), Lib.hid (Keeps.refl _ _)⟩
  case round =>
    obtain ⟨i, q, d, q2, d2, hi, rfl, rfl, rfl, hO, hE, hK⟩ := hrel
    by_cases hil : i < ms.length
    · obtain ⟨x, hx⟩ : ∃ x, ms[i]? = some x := ⟨_, List.getElem?_eq_getElem hil⟩
      obtain ⟨g, o, rfl, hr⟩ := RowsAt.open hv.out (by omega)
      have hxr : Hid (wr.rangeAt g (o + i * 9) (lsaRow x)) := Lib.hid (hK.out.rangeAt (hr i x hx) (fun f => f))
      have hag := hage.out x (List.mem_of_getElem? hx)
      have m1 : (0 : Int) ≤ (i : Int) := by omega
      have m2 : (i : Int) < (ms.length : Int) := by omega
      have hen := Lib.hid (endM_snoc hx)
      have hel := endM_len i ms
      have htl : Hid (((ms.take i).map tickM).length = i) := Lib.hid (by rw [List.length_map, List.length_take]; omega)
      have hts : Hid ((ms.take (i + 1)).map tickM = (ms.take i).map tickM ++ [tickM x]) := Lib.hid (by rw [take_snoc hx, List.map_append]; rfl)
      obtain ⟨⟨age, type, id, adv, seq, links, mask, routers, cost⟩, p5, c5, p7, c7⟩ := x
      simp only at hag
      clear hr hx
      obtain ⟨Wa, hWa⟩ : ∃ Wa, Wa = wr.alloc (.cells #[.int .i64 age, .int .i64 type, .int .u32 id, .int .u32 adv, .int .i64 seq, .slice p5 links.length c5, .int .u32 mask, .slice p7 routers.length c7, .int .i64 cost] 48) := ⟨_, rfl⟩
      have hB : Hid (BlkAt Wa wr.heap.size 48 [.int .i64 age, .int .i64 type, .int .u32 id, .int .u32 adv, .int .i64 seq, .slice p5 links.length c5, .int .u32 mask, .slice p7 routers.length c7, .int .i64 cost]) := Lib.hid (by rw [hWa]; exact BlkAt.new wr 48 [.int .i64 age, .int .i64 type, .int .u32 id, .int .u32 adv, .int .i64 seq, .slice p5 links.length c5, .int .u32 mask, .slice p7 routers.length c7, .int .i64 cost])
      have hKa : Hid (Keeps (fun _ => False) wr Wa) := Lib.hid (by rw [hWa]; exact (Keeps.refl _ _).alloc _)
      have hWa' := Lib.hid hWa
      clear hWa
      go_upto_region 7 with (first | ((with_reducible refine at_slot 17 ?_); refine wpList_load_mid rfl 48 (.tmp 16) rfl g (o + i * 9) rfl [.int .i64 age, .int .i64 type, .int .u32 id, .int .u32 adv, .int .i64 seq, .slice p5 links.length c5, .int .u32 mask, .slice p7 routers.length c7, .int .i64 cost] _ hxr.out Try.underlying48 rfl lsaInfoR ?_) | ((with_reducible refine at_store 7 ?_); refine wpList_store_new rfl 48 (.tmp 7) (.tmp 17) rfl _ _ rfl rfl lsaInfoR rfl (lsa_one _ _ _ _ _ _ _ _ _ (slice_one _ _ _) (slice_one _ _ _)) ?_))
      rw [← hWa'.out]
      clear hWa'
      obtain ⟨bl, hbl⟩ : ∃ z, wr.heap.size = z := ⟨_, rfl⟩
      have hbl' := Lib.hid hbl
      rw [hbl] at hB ⊢
      clear hbl
      have hElt : Hid (∀ k, (Value.slice q2 (endM (ms.take i)).length d2).ownBlock = some k → k < bl) := Lib.hid (fun k e => by rw [← hbl'.out]; exact hE.out.lt_own k e)
      by_cases ha : age < 3600
      · have htick : Hid (tickM ⟨⟨age, type, id, adv, seq, links, mask, routers, cost⟩, p5, c5, p7, c7⟩ = ⟨⟨age + 1, type, id, adv, seq, links, mask, routers, cost⟩, p5, c5, p7, c7⟩) := Lib.hid (by unfold tickM; rw [tickD_young ha])
        rw [htick.out] at hts
        have hO5 : Hid (BlkAt (Wa.setCell ⟨bl, 0, none⟩ (.int .i64 (age + 1))) bl 48 [.int .i64 (age + 1), .int .i64 type, .int .u32 id, .int .u32 adv, .int .i64 seq, .slice p5 links.length c5, .int .u32 mask, .slice p7 routers.length c7, .int .i64 cost]) := Lib.hid (hB.out.set 0 (.int .i64 (age + 1)))
        have hK5 : Hid (Keeps (fun _ => False) wr (Wa.setCell ⟨bl, 0, none⟩ (.int .i64 (age + 1)))) := Lib.hid (hKa.out.trans' (Keeps.setCell (F := fun i => i = bl) (Keeps.refl _ _) (.inl rfl) _) (fun i e => .inr (by rw [e, hbl'.out]; exact Nat.le_refl _)))
        have a1 : (-9223372036854775808 : Int) ≤ age + 1 := by omega
        have a2 : age + 1 ≤ 9223372036854775807 := by omega
        have b0 := hB.out.cell 0 _ rfl
        have f0 := hB.out.frozen 0
        obtain ⟨W5, hW5⟩ : ∃ W5, W5 = Wa.setCell ⟨bl, 0, none⟩ (.int .i64 (age + 1)) := ⟨_, rfl⟩
        rw [← hW5] at hO5 hK5
        have hW5' := Lib.hid hW5
        clear hW5 htick hB hKa
        go_upto_region 9 with fail
        rw [← hW5'.out]
        clear hW5' b0 f0
        have hO6 := Lib.hid (hO.out.keep hK5.out (fun _ _ f => f))
        have hE6 := Lib.hid (hE.out.keep hK5.out (fun _ _ f => f))
        have hK6 := Lib.hid (hK.out.trans hK5.out)
        have c0 := hO5.out.cell 0 _ rfl
        clear hO hE hK hK5
        by_cases h9 : age = 3599
        · have h91 : (age + 1 == 3600) = true := by rw [h9]; rfl
          rw [if_pos (by unfold endsD; simpa using h9)] at hen
          have kd := (Keeps.refl (fun _ => False) W5).alloc (.cells #[.int .i64 type, .int .u32 id, .int .u32 adv] 45)
          have hAd := Lib.hid (hE6.out.keep kd (fun _ _ f => f))
          have hOd := Lib.hid (hO6.out.keep kd (fun _ _ f => f))
          have hKd := Lib.hid (hK6.out.trans kd)
          have hBd := Lib.hid (hO5.out.keep kd (fun f => f))
          have hcn := Lib.hid (cells_new (w := W5) rfl (kV (type, id, adv)) 45)
          have hx5 := Lib.hid (row_key (x := ⟨⟨age + 1, type, id, adv, seq, links, mask, routers, cost⟩, p5, c5, p7, c7⟩) (g := bl) (o := 0) hO5.out.range)
          have hEl := Lib.hid (fun k e => hElt.out k e)
          clear kd h9
          go_upto_region 11 with (first | ((with_reducible refine at_slot 30 ?_); refine wpList_load_mid rfl 45 (.tmp 29) rfl bl 1 rfl [.int .i64 type, .int .u32 id, .int .u32 adv] _ hx5.out Try.underlying45 rfl r10KeyInfo ?_) | ((with_reducible refine at_slot 32 ?_); refine wpList_append_r rfl (.tmp 28) (.tmp 31) 58 45 rfl jk _ 16 Try.underlying58 hjk hjz hjsz hjby rfl (by decide) (by decide) kV_len w _ (endM (ms.take i)).length (endM (ms.take i)) rfl rfl hAd.out _ rfl (type, id, adv) hcn.out (kV_one _) (by omega) ?_; intro q8 d8 w8 hO8 hg8))
          have hK8 := Lib.hid (hKd.out.trans' hg8.out.k (fun i e => .inr (hAd.out.2.1 i e)))
          have hB8 := Lib.hid (hBd.out.keep hg8.out.k (fun e => by have := hElt.out _ e; omega))
          have hR8 := Lib.hid (hOd.out.keep hg8.out.k (fun k e f => OwnR.apart hOd.out hAd.out (by decide) k e f))
          clear hAd hOd hBd hKd hg8 hcn hx5 hO6 hE6 hK6
          have kd := (Keeps.refl (fun _ => False) w8).alloc (.cells #[.int .i64 (age + 1), .int .i64 type, .int .u32 id, .int .u32 adv, .int .i64 seq, .slice p5 links.length c5, .int .u32 mask, .slice p7 routers.length c7, .int .i64 cost] 48)
          have hAd := Lib.hid (hR8.out.keep kd (fun _ _ f => f))
          have hEd := Lib.hid (hO8.out.keep kd (fun _ _ f => f))
          have hKd := Lib.hid (hK8.out.trans kd)
          have hcn := Lib.hid (cells_newL (w := w8) rfl (age + 1) type seq cost id adv mask links routers p5 p7 c5 c7)
          clear kd
          go_wp2_with (first | ((with_reducible refine at_slot 34 ?_); refine wpList_load_mid rfl 48 (.tmp 7) rfl bl 0 rfl [.int .i64 (age + 1), .int .i64 type, .int .u32 id, .int .u32 adv, .int .i64 seq, .slice p5 links.length c5, .int .u32 mask, .slice p7 routers.length c7, .int .i64 cost] _ hB8.out.range Try.underlying48 rfl lsaInfoR ?_) | ((with_reducible refine at_slot 36 ?_); refine wpList_append_r rfl (.tmp 33) (.tmp 35) 44 48 rfl ik _ 96 Try.underlying44 hik hkz hksz hkby rfl (by decide) (by decide) lsaRow_len w _ i ((ms.take i).map tickM) htl.out rfl hAd.out _ rfl ⟨⟨age + 1, type, id, adv, seq, links, mask, routers, cost⟩, p5, c5, p7, c7⟩ hcn.out (lsaRow_oneU _) (by omega) ?_; intro q9 d9 w9 hO9 hg9))
          have hE9 := Lib.hid (hEd.out.keep hg9.out.k (fun k e f => OwnR.apart hAd.out hEd.out (by decide) k f e))
          have hK9 := Lib.hid (hKd.out.trans' hg9.out.k (fun i e => .inr (hAd.out.2.1 i e)))
          have hl2 : (endM (ms.take i)).length + 1 = (endM (ms.take (i + 1))).length := by rw [hen.out, List.length_append]; rfl
          exact ⟨⟨i + 1, q9, d9, q8, d8, by omega, by go_num, rfl, by rw [← hl2], by rw [hts.out]; exact hO9, by rw [← hl2, hen.out]; exact hE9, hK9⟩, by simp [intOf]; omega⟩
        · have h91 : (age + 1 == 3600) = false := by rw [beq_eq_false_iff_ne]; omega
          rw [if_neg (by unfold endsD; simpa using h9)] at hen
          clear h9
          go_upto_region 11 with fail
          have kd := (Keeps.refl (fun _ => False) W5).alloc (.cells #[.int .i64 (age + 1), .int .i64 type, .int .u32 id, .int .u32 adv, .int .i64 seq, .slice p5 links.length c5, .int .u32 mask, .slice p7 routers.length c7, .int .i64 cost] 48)
          have hAd := Lib.hid (hO6.out.keep kd (fun _ _ f => f))
          have hEd := Lib.hid (hE6.out.keep kd (fun _ _ f => f))
          have hKd := Lib.hid (hK6.out.trans kd)
          have hcn := Lib.hid (cells_newL (w := W5) rfl (age + 1) type seq cost id adv mask links routers p5 p7 c5 c7)
          clear kd
          go_wp2_with (first | ((with_reducible refine at_slot 34 ?_); refine wpList_load_mid rfl 48 (.tmp 7) rfl bl 0 rfl [.int .i64 (age + 1), .int .i64 type, .int .u32 id, .int .u32 adv, .int .i64 seq, .slice p5 links.length c5, .int .u32 mask, .slice p7 routers.length c7, .int .i64 cost] _ hO5.out.range Try.underlying48 rfl lsaInfoR ?_) | ((with_reducible refine at_slot 36 ?_); refine wpList_append_r rfl (.tmp 33) (.tmp 35) 44 48 rfl ik _ 96 Try.underlying44 hik hkz hksz hkby rfl (by decide) (by decide) lsaRow_len w _ i ((ms.take i).map tickM) htl.out rfl hAd.out _ rfl ⟨⟨age + 1, type, id, adv, seq, links, mask, routers, cost⟩, p5, c5, p7, c7⟩ hcn.out (lsaRow_oneU _) (by omega) ?_; intro q9 d9 w9 hO9 hg9))
          have hE9 := Lib.hid (hEd.out.keep hg9.out.k (fun k e f => OwnR.apart hAd.out hEd.out (by decide) k f e))
          have hK9 := Lib.hid (hKd.out.trans' hg9.out.k (fun i e => .inr (hAd.out.2.1 i e)))
          exact ⟨⟨i + 1, q9, d9, q2, d2, by omega, by go_num, rfl, by rw [hen.out], by rw [hts.out]; exact hO9, by rw [hen.out]; exact hE9, hK9⟩, by simp [intOf]; omega⟩
      · have ha1 : ¬ age < 3600 := ha
        have htick : Hid (tickM ⟨⟨age, type, id, adv, seq, links, mask, routers, cost⟩, p5, c5, p7, c7⟩ = ⟨⟨age, type, id, adv, seq, links, mask, routers, cost⟩, p5, c5, p7, c7⟩) := Lib.hid (by unfold tickM; rw [tickD_old ha])
        rw [htick.out] at hts
        rw [if_neg (by unfold endsD; simp; omega)] at hen
        have c0 := hB.out.cell 0 _ rfl
        have hO6 := Lib.hid (hO.out.keep hKa.out (fun _ _ f => f))
        have hE6 := Lib.hid (hE.out.keep hKa.out (fun _ _ f => f))
        have hK6 := Lib.hid (hK.out.trans hKa.out)
        clear hO hE hK hKa htick ha
        go_upto_region 11 with fail
        have kd := (Keeps.refl (fun _ => False) Wa).alloc (.cells #[.int .i64 age, .int .i64 type, .int .u32 id, .int .u32 adv, .int .i64 seq, .slice p5 links.length c5, .int .u32 mask, .slice p7 routers.length c7, .int .i64 cost] 48)
        have hAd := Lib.hid (hO6.out.keep kd (fun _ _ f => f))
        have hEd := Lib.hid (hE6.out.keep kd (fun _ _ f => f))
        have hKd := Lib.hid (hK6.out.trans kd)
        have hcn := Lib.hid (cells_newL (w := Wa) rfl (age) type seq cost id adv mask links routers p5 p7 c5 c7)
        clear kd
        go_wp2_with (first | ((with_reducible refine at_slot 34 ?_); refine wpList_load_mid rfl 48 (.tmp 7) rfl bl 0 rfl [.int .i64 age, .int .i64 type, .int .u32 id, .int .u32 adv, .int .i64 seq, .slice p5 links.length c5, .int .u32 mask, .slice p7 routers.length c7, .int .i64 cost] _ hB.out.range Try.underlying48 rfl lsaInfoR ?_) | ((with_reducible refine at_slot 36 ?_); refine wpList_append_r rfl (.tmp 33) (.tmp 35) 44 48 rfl ik _ 96 Try.underlying44 hik hkz hksz hkby rfl (by decide) (by decide) lsaRow_len w _ i ((ms.take i).map tickM) htl.out rfl hAd.out _ rfl ⟨⟨age, type, id, adv, seq, links, mask, routers, cost⟩, p5, c5, p7, c7⟩ hcn.out (lsaRow_oneU _) (by omega) ?_; intro q9 d9 w9 hO9 hg9))
        have hE9 := Lib.hid (hEd.out.keep hg9.out.k (fun k e f => OwnR.apart hAd.out hEd.out (by decide) k f e))
        have hK9 := Lib.hid (hKd.out.trans' hg9.out.k (fun i e => .inr (hAd.out.2.1 i e)))
        exact ⟨⟨i + 1, q9, d9, q2, d2, by omega, by go_num, rfl, by rw [hen.out], by rw [hts.out]; exact hO9, by rw [hen.out]; exact hE9, hK9⟩, by simp [intOf]; omega⟩
    · obtain rfl : i = ms.length := by omega
      rw [List.take_length] at *
      go_wp2_with fail
      go_ret2
      exact ⟨⟨_, _, rfl, hO.out, hE.out⟩, hK.out⟩
end Go.Proofs.Ytdaongflpllfhaa
/- The document's Head of an Lsa; the law's Head and keyFrom (gen_lmc.py writes this). -/
set_option linter.unusedVariables false
set_option linter.unusedSimpArgs false
namespace Go.Proofs.Ytdaongflpllfhaa
open Go.RowKit

theorem lwHead_any (age type seq len : Int) (lid adv sum : Nat) (w : World) :
    Calls Try.prog 39 #[.agg #[.int .i64 age, .int .i64 type, .int .u32 lid, .int .u32 adv, .int .i64 seq, .int .u16 sum, .int .i64 len]] w (fun e w' => e = .returned (.agg #[.int .i64 age, .int .i64 type, .int .u32 lid, .int .u32 adv, .int .i64 seq, .int .u16 sum, .int .i64 len]) ∧ Keeps (fun _ => False) w w') := by
  have hA : Hid (BlkAt ((w.alloc (.cells #[.int .i64 age, .int .i64 type, .int .u32 lid, .int .u32 adv, .int .i64 seq, .int .u16 sum, .int .i64 len] 95)).alloc (.cells #[.int .i64 0, .int .i64 0, .int .u32 0, .int .u32 0, .int .i64 0, .int .u16 0, .int .i64 0] 82)) w.heap.size 95 [.int .i64 age, .int .i64 type, .int .u32 lid, .int .u32 adv, .int .i64 seq, .int .u16 sum, .int .i64 len]) := Lib.hid ((BlkAt.new w 95 [.int .i64 age, .int .i64 type, .int .u32 lid, .int .u32 adv, .int .i64 seq, .int .u16 sum, .int .i64 len]).keep ((Keeps.refl (fun _ => False) _).alloc _) (fun f => f))
  have hB : Hid (BlkAt ((w.alloc (.cells #[.int .i64 age, .int .i64 type, .int .u32 lid, .int .u32 adv, .int .i64 seq, .int .u16 sum, .int .i64 len] 95)).alloc (.cells #[.int .i64 0, .int .i64 0, .int .u32 0, .int .u32 0, .int .i64 0, .int .u16 0, .int .i64 0] 82)) (w.heap.size + 1) 82 [.int .i64 0, .int .i64 0, .int .u32 0, .int .u32 0, .int .i64 0, .int .u16 0, .int .i64 0]) := Lib.hid (by have := BlkAt.new (w.alloc (.cells #[.int .i64 age, .int .i64 type, .int .u32 lid, .int .u32 adv, .int .i64 seq, .int .u16 sum, .int .i64 len] 95)) 82 [.int .i64 0, .int .i64 0, .int .u32 0, .int .u32 0, .int .i64 0, .int .u16 0, .int .i64 0]; simpa using this)
  have hK : Hid (Keeps (fun _ => False) w ((w.alloc (.cells #[.int .i64 age, .int .i64 type, .int .u32 lid, .int .u32 adv, .int .i64 seq, .int .u16 sum, .int .i64 len] 95)).alloc (.cells #[.int .i64 0, .int .i64 0, .int .u32 0, .int .u32 0, .int .i64 0, .int .u16 0, .int .i64 0] 82))) := Lib.hid (((Keeps.refl _ _).alloc _).alloc _)
  go_enter Try.func39, Try.ntmps39
  go_upto_region 1 with fail
  generalize (w.alloc (.cells #[.int .i64 age, .int .i64 type, .int .u32 lid, .int .u32 adv, .int .i64 seq, .int .u16 sum, .int .i64 len] 95)).alloc (.cells #[.int .i64 0, .int .i64 0, .int .u32 0, .int .u32 0, .int .i64 0, .int .u16 0, .int .i64 0] 82) = w0 at hA hB hK ⊢
  have a0 := hA.out.cell 0 _ rfl
  have a1 := hA.out.cell 1 _ rfl
  have a2 := hA.out.cell 2 _ rfl
  have a3 := hA.out.cell 3 _ rfl
  have a4 := hA.out.cell 4 _ rfl
  have a5 := hA.out.cell 5 _ rfl
  have a6 := hA.out.cell 6 _ rfl
  go_wp2_with ((with_reducible refine at_store 2 ?_); refine wpList_store_blk rfl 82 (.tmp 2) (.tmp 21) rfl (w.heap.size + 1) #[.int .i64 age, .int .i64 type, .int .u32 lid, .int .u32 adv, .int .i64 seq, .int .u16 sum, .int .i64 len] rfl rfl (hB.out.there 0 7 (Nat.le_refl _)) headInfo (head_one _ _ _ _ _ _ _) ?_; intro w1 hr9 hk9)
  have e0 := rangeAt_cell hr9.out 0 (.int .i64 age) rfl
  have e1 := rangeAt_cell hr9.out 1 (.int .i64 type) rfl
  have e2 := rangeAt_cell hr9.out 2 (.int .u32 lid) rfl
  have e3 := rangeAt_cell hr9.out 3 (.int .u32 adv) rfl
  have e4 := rangeAt_cell hr9.out 4 (.int .i64 seq) rfl
  have e5 := rangeAt_cell hr9.out 5 (.int .u16 sum) rfl
  have e6 := rangeAt_cell hr9.out 6 (.int .i64 len) rfl
  refine bodyPost_ret (v := .agg #[.int .i64 age, .int .i64 type, .int .u32 lid, .int .u32 adv, .int .i64 seq, .int .u16 sum, .int .i64 len]) (by simp [results, Try.results39, go_sem, e0, e1, e2, e3, e4, e5, e6]) rfl ⟨rfl, hK.out.trans' hk9.out (fun i e => .inr (by omega))⟩
theorem lwKeyFrom_any (a : KeyD) (w : World) : Calls Try.prog 22 #[.agg #[.int .i64 a.type, .int .u32 a.id, .int .u32 a.adv]] w (fun e w' => e = .returned (.agg #[.int .i64 a.type, .int .u32 a.id, .int .u32 a.adv]) ∧ Keeps (fun _ => False) w w') := by
  obtain ⟨W0, hW0⟩ : ∃ W0, W0 = (w.alloc (.cells #[.int .i64 a.type, .int .u32 a.id, .int .u32 a.adv] 25)).alloc (.cells #[.int .i64 0, .int .u32 0, .int .u32 0] 45) := ⟨_, rfl⟩
  have hR : Hid (BlkAt W0 (w.heap.size + 1) 45 [.int .i64 0, .int .u32 0, .int .u32 0]) := Lib.hid (by
    have := BlkAt.new (w.alloc (.cells #[.int .i64 a.type, .int .u32 a.id, .int .u32 a.adv] 25)) 45 [.int .i64 0, .int .u32 0, .int .u32 0]
    rw [hW0]; simpa using this)
  have hB := (BlkAt.new w 25 [.int .i64 a.type, .int .u32 a.id, .int .u32 a.adv]).alloc (.cells #[.int .i64 0, .int .u32 0, .int .u32 0] 45)
  have hK : Hid (Keeps (fun _ => False) w W0) := Lib.hid (by rw [hW0]; exact ((Keeps.refl _ _).alloc _).alloc _)
  have b0 : W0.cell? ⟨w.heap.size, 0, none⟩ = some (.int .i64 a.type) := by rw [hW0]; exact hB.cell 0 _ rfl
  have b1 : W0.cell? ⟨w.heap.size, 1, none⟩ = some (.int .u32 a.id) := by rw [hW0]; exact hB.cell 1 _ rfl
  have b2 : W0.cell? ⟨w.heap.size, 2, none⟩ = some (.int .u32 a.adv) := by rw [hW0]; exact hB.cell 2 _ rfl
  have hW0' := Lib.hid hW0
  clear hW0 hB
  go_enter Try.func22, Try.ntmps22
  go_upto_region 1 with fail
  rw [← hW0'.out]
  clear hW0'
  go_wp2_with ((with_reducible refine at_store 2 ?_); refine wpList_store_blk rfl 45 (.tmp 2) (.tmp 9) rfl (w.heap.size + 1) #[.int .i64 a.type, .int .u32 a.id, .int .u32 a.adv] rfl rfl (BlkAt.there hR.out 0 3 (Nat.le_refl 3)) r10KeyInfo (by simp; exact ⟨rfl, rfl, rfl⟩) ?_; intro w9 hr9 hs9)
  have c0 := rangeAt_cell hr9.out 0 (.int .i64 a.type) rfl
  have c1 := rangeAt_cell hr9.out 1 (.int .u32 a.id) rfl
  have c2 := rangeAt_cell hr9.out 2 (.int .u32 a.adv) rfl
  refine bodyPost_ret (v := .agg #[.int .i64 a.type, .int .u32 a.id, .int .u32 a.adv]) (by simp [results, Try.results22, go_sem, c0, c1, c2]) rfl ⟨rfl, ?_⟩
  exact hK.out.trans' hs9.out (fun i e => .inr (by rw [e]; omega))
set_option maxRecDepth 100000 in
set_option maxHeartbeats 1000000 in
theorem r12Head_any (m : LsaM) (hg : Hid (GoodL m.d)) (w : World) (hI : Hid (LsaIn w m)) : Calls Try.prog 35 #[.agg (lsaRow m).toArray] w fun e w' => e = .returned (headV (hdD m.d)) ∧ Keeps (fun _ => False) w w' := by
  obtain ⟨H, hH⟩ : ∃ H, hdD m.d = H := ⟨_, rfl⟩
  rw [hH]
  have hlen := putB_len24K m.d hg.out.can
  have hH' := Lib.hid hH
  clear hH
  obtain ⟨⟨age, type, id, adv, seq, links, mask, routers, cost⟩, p5, c5, p7, c7⟩ := m
  simp only at hI hH' hlen
  have e0 : (lsaRow ⟨⟨age, type, id, adv, seq, links, mask, routers, cost⟩, p5, c5, p7, c7⟩).toArray = #[.int .i64 age, .int .i64 type, .int .u32 id, .int .u32 adv, .int .i64 seq, .slice p5 links.length c5, .int .u32 mask, .slice p7 routers.length c7, .int .i64 cost] := rfl
  rw [e0]
  clear e0
  obtain ⟨W0, hW0⟩ : ∃ W0, W0 = (w.alloc (.cells #[.int .i64 age, .int .i64 type, .int .u32 id, .int .u32 adv, .int .i64 seq, .slice p5 links.length c5, .int .u32 mask, .slice p7 routers.length c7, .int .i64 cost] 48)).alloc (.cells #[.int .i64 0, .int .i64 0, .int .u32 0, .int .u32 0, .int .i64 0, .int .u16 0, .int .i64 0] 95) := ⟨_, rfl⟩
  have hB : Hid (BlkAt W0 w.heap.size 48 [.int .i64 age, .int .i64 type, .int .u32 id, .int .u32 adv, .int .i64 seq, .slice p5 links.length c5, .int .u32 mask, .slice p7 routers.length c7, .int .i64 cost]) := Lib.hid (by rw [hW0]; exact (BlkAt.new w 48 [.int .i64 age, .int .i64 type, .int .u32 id, .int .u32 adv, .int .i64 seq, .slice p5 links.length c5, .int .u32 mask, .slice p7 routers.length c7, .int .i64 cost]).alloc _)
  have hR : Hid (BlkAt W0 (w.heap.size + 1) 95 [.int .i64 0, .int .i64 0, .int .u32 0, .int .u32 0, .int .i64 0, .int .u16 0, .int .i64 0]) := Lib.hid (by
    have := BlkAt.new (w.alloc (.cells #[.int .i64 age, .int .i64 type, .int .u32 id, .int .u32 adv, .int .i64 seq, .slice p5 links.length c5, .int .u32 mask, .slice p7 routers.length c7, .int .i64 cost] 48)) 95 [.int .i64 0, .int .i64 0, .int .u32 0, .int .u32 0, .int .i64 0, .int .u16 0, .int .i64 0]
    rw [hW0]; simpa using this)
  have hK : Hid (Keeps (fun _ => False) w W0) := Lib.hid (by rw [hW0]; exact ((Keeps.refl _ _).alloc _).alloc _)
  have hI0 := Lib.hid (hI.out.keepC hK.out (fun _ _ _ _ _ f => f))
  have hW0' := Lib.hid hW0
  clear hW0 hI
  go_enter Try.func35, Try.ntmps35
  go_upto_region 1 with fail
  rw [← hW0'.out]
  clear hW0'
  go_wp2_with ((with_reducible refine at_slot 6 ?_); refine wpList_load_mid rfl 48 (.tmp 1) rfl w.heap.size 0 rfl _ _ hB.out.range Try.underlying48 rfl lsaInfoR ?_)
  refine (r10Put_yes age type seq cost id adv mask links routers p5 p7 c5 c7 _ (Lib.hid hI0.out.1) (Lib.hid hI0.out.2) (Lib.hid hg.out.fine.links) (Lib.hid hg.out.fine.routers) hg.out.fine.id hg.out.fine.adv hg.out.fine.mask (Lib.hid hg.out.can)).mono ?_
  rintro e w2 ⟨p, c, rfl, ho, k2⟩
  have hH2 : Hid (headOf (putB ⟨age, type, id, adv, seq, links, mask, routers, cost⟩) = H) := Lib.hid hH'.out
  obtain ⟨X, hX⟩ : ∃ X, putB ⟨age, type, id, adv, seq, links, mask, routers, cost⟩ = X := ⟨_, rfl⟩
  rw [hX] at ho hlen hH2 ⊢
  obtain ⟨p', c', ep, -, hc, hr⟩ := ho.bytes
  obtain ⟨g, o, ep2, hrr⟩ := hr (by omega)
  injection ep with e1 e2 e3
  subst e1; subst e3; subst ep2
  have hr' := Lib.hid hrr
  have hR2 := Lib.hid (hR.out.keep k2 (fun f => f))
  have hK2 := Lib.hid (hK.out.trans k2)
  have hlen' := Lib.hid hlen
  clear hrr e2 hr k2 ho hX hB hR hK hI0 hg hlen hH'
  go_wp2_with fail
  refine (r10Head_yes g o c X (by have := hlen'.out; omega) (by have := hlen'.out; omega) hc _ hr').mono ?_
  rintro e w3 ⟨rfl, k3⟩
  rw [hH2.out]
  have hR3 := Lib.hid (hR2.out.keep k3 (fun f => f))
  have hK3 := Lib.hid (hK2.out.trans k3)
  clear k3 hR2 hK2 hH2 hr'
  unfold headV
  go_wp2_with ((with_reducible refine at_store 2 ?_); refine wpList_store_blk rfl 95 (.tmp 2) (.tmp 11) rfl (w.heap.size + 1) #[.int .i64 H.age, .int .i64 H.type, .int .u32 H.id, .int .u32 H.adv, .int .i64 H.seq, .int .u16 H.sum, .int .i64 H.len] rfl rfl (BlkAt.there hR3.out 0 7 (Nat.le_refl 7)) r10HeadInfo (head_one _ _ _ _ _ _ _) ?_; intro w9 hr9 hs9)
  exact bodyPost_ret (ret_cellK rfl _ w9 (w.heap.size + 1) _ _ rfl hr9.out Try.underlying95 rfl r10HeadInfo) rfl ⟨rfl, hK3.out.trans' hs9.out (fun i e => .inr (by rw [e]; omega))⟩
end Go.Proofs.Ytdaongflpllfhaa
