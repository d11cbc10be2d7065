/- lsdb.Heads of a Db of whatever Lsas; Put of one that can't be; all of no Db. -/
import Derived.Test.YtdaongflpllfhaaLS15
import Derived.Test.YtdaongflpllfhaaLS09
import Derived.Test.YtdaongflpllfhaaLS05
set_option linter.unusedVariables false
set_option linter.unusedSimpArgs false
set_option linter.unusedVariables false
set_option linter.unusedSimpArgs false
namespace Go.Proofs.Ytdaongflpllfhaa
open Go.RowKit

theorem cells_newH {w : World} {n : Nat} (hn : n = w.heap.size) (h : HeadD) : ∀ j u, (headVals h)[j]? = some u → (w.alloc (.cells #[.int .i64 h.age, .int .i64 h.type, .int .u32 h.id, .int .u32 h.adv, .int .i64 h.seq, .int .u16 h.sum, .int .i64 h.len] 82)).cell? ((⟨n, 0, none⟩ : Addr).add j) = some u := cells_new hn (headVals h) 82
set_option maxRecDepth 100000 in
set_option maxHeartbeats 8000000 in
theorem ldHeads_g (b r N : Nat) (L : List LsaD) (hF : Hid (FineL L)) (w : World) (h : Hid (DbL w b r N L)) :
    Calls Try.prog 13 #[.pointer (some ⟨b, 0, none⟩)] w fun e w' => ∃ v, e = .returned v ∧ OwnR 82 7 headVals w w' v (L.map hdD) ∧ Keeps (fun _ => False) w w' := by
  obtain ⟨K, hDK⟩ := h.out
  have hfew := hF.out.few
  have hkeys := Lib.hid (ldKeys_any b r N L.length K (fun ss hs => by have := hDK.count hs; omega) (by omega) w (hDK.blk.cell 0 _ rfl) (Lib.hid hDK.map))
  have hsort := Lib.hid (fun S (hS : Sorted3 K S) => hDK.sorted hF.out.up hF.out.good hS)
  obtain ⟨ik, hik, hkz, hksz, hkby⟩ := info_parts headInfoAllK
  have hDK' := Lib.hid hDK
  clear hDK
  go_enter Try.func13, Try.ntmps13
  go_wp2_with fail
  refine hkeys.out.mono ?_
  rintro e w1 ⟨kv, S, rfl, hS, hO, hk⟩
  obtain rfl := hsort.out S hS
  have hR := hO.at kV_len
  obtain ⟨kp, kc, rfl⟩ := hO.slice
  rw [List.length_map] at *
  have hR' := Lib.hid hR
  have hk' := Lib.hid hk
  have hD1 := Lib.hid (hDK'.out.keep hk)
  clear hkeys hsort hS hO hk hR hDK'
  go_wp2_with fail
  have hO0 : Hid (OwnR 82 7 headVals w1 w1 (.slice none 0 0) ([] : List HeadD)) := Lib.hid (OwnR.nil _ _ (Nat.le_refl _))
  go_loopw [11, 3] (fun iv ev wr => ∃ (i : Nat) (q : Option Addr) (d : Nat), i ≤ L.length ∧ iv = .int .i64 i ∧ ev = .slice q i d ∧ Hid (OwnR 82 7 headVals w1 wr (.slice q i d) ((L.take i).map hdD)) ∧ Hid (Keeps (fun _ => False) w1 wr)) (fun iv _ _ => L.length - (intOf iv).toNat)
  case atStart => exact ⟨0, none, 0, by omega, rfl, rfl, hO0, Lib.hid (Keeps.refl _ _)⟩
  case round =>
    obtain ⟨i, q, d, hi, rfl, rfl, hE, hK⟩ := hrel
    by_cases hil : i < L.length
    · obtain ⟨x, hx⟩ : ∃ x, L[i]? = some x := ⟨_, List.getElem?_eq_getElem hil⟩
      obtain ⟨g, o, rfl, hr⟩ := RowsAt.open hR'.out (by rw [List.length_map]; omega)
      have hxr : Hid (wr.rangeAt g (o + i * 3) [.int .i64 x.type, .int .u32 x.id, .int .u32 x.adv]) := Lib.hid (hK.out.rangeAt (hr i (kOf x) (by rw [List.getElem?_map, hx]; rfl)) (fun f => f))
      have hgx := hF.out.good x (List.mem_of_getElem? hx)
      obtain ⟨m, hm1, hm2, hm3, hm4⟩ := hD1.out.lookM hgx.k
      have hmx : mapL L x.type x.id x.adv = some x := mapL_mem hF.out.up (List.mem_of_getElem? hx)
      rw [hmx] at hm2
      have hm2 : m.d = x := hm2
      obtain ⟨X, hX⟩ : ∃ X, lsaRow m = X := ⟨_, rfl⟩
      have hX' := Lib.hid hX
      obtain ⟨type, ht⟩ : ∃ z, x.type = z := ⟨_, rfl⟩
      obtain ⟨id, hid⟩ : ∃ z, x.id = z := ⟨_, rfl⟩
      obtain ⟨adv, hadv⟩ : ∃ z, x.adv = z := ⟨_, rfl⟩
      have hko := hgx.k
      rw [ht, hid, hadv] at hxr hm1 hko
      have hlook : Hid (∀ W, Keeps (fun _ => False) wr W → (Instr.lookup 84 (.map (some r)) (keyA type id adv) false).run Try.prog W = .ok (.agg X.toArray) W) := Lib.hid (fun W k => by
        rw [((hD1.out.keep hK.out).map.keep k (fun f => f)).look1 hko, hm1, hX])
      have hm3' := Lib.hid (hm3.keepC hK.out (fun _ _ _ _ _ f => f))
      have hDb := Lib.hid (hD1.out.keep hK.out).blk
      have hmf : Hid (LsaFine m.d) := Lib.hid (by rw [hm2]; exact hgx.fine)
      have hmc : Hid (canB m.d = true) := Lib.hid (by rw [hm2]; exact hgx.can)
      have hmh : Hid (hdD m.d = hdD x) := Lib.hid (by rw [hm2])
      have m1 : (0 : Int) ≤ (i : Int) := by omega
      have m2 : (i : Int) < (L.length : Int) := by omega
      obtain ⟨H, hH⟩ : ∃ H, hdD x = H := ⟨_, rfl⟩
      have htk : Hid ((L.take (i + 1)).map hdD = (L.take i).map hdD ++ [H]) := Lib.hid (by rw [take_snoc hx, List.map_append, ← hH]; rfl)
      rw [hH] at hmh
      have hlen : Hid (((L.take i).map hdD).length = i) := Lib.hid (by rw [List.length_map, List.length_take]; omega)
      clear hm1 hm2 hm3 hm4 hmx hx hgx hr hX ht hid hadv hko hH
      obtain ⟨Wa, hWa⟩ : ∃ Wa, Wa = wr.alloc (.cells #[.int .i64 type, .int .u32 id, .int .u32 adv] 25) := ⟨_, rfl⟩
      have hB : Hid (BlkAt Wa wr.heap.size 25 [.int .i64 type, .int .u32 id, .int .u32 adv]) := Lib.hid (by rw [hWa]; exact BlkAt.new wr 25 [.int .i64 type, .int .u32 id, .int .u32 adv])
      have hKa : Hid (Keeps (fun _ => False) wr Wa) := Lib.hid (by rw [hWa]; exact (Keeps.refl _ _).alloc _)
      have hWa' := Lib.hid hWa
      clear hWa
      go_upto_region 5 with (first | ((with_reducible refine at_slot 14 ?_); refine wpList_load_mid rfl 25 (.tmp 13) rfl g (o + i * 3) rfl _ _ hxr.out Try.underlying25 rfl keyInfo ?_) | ((with_reducible refine at_store 5 ?_); refine wpList_store_new rfl 25 (.tmp 5) (.tmp 14) rfl _ _ rfl rfl keyInfo rfl (by simp; exact ⟨rfl, rfl, rfl⟩) ?_))
      rw [← hWa'.out]
      clear hWa'
      refine wp_region_noPanic ?_
      refine wp_region_held_drew (S := (fun W => Keeps (fun _ => False) Wa W)) (by kernel_rfl) (((Keeps.refl (fun _ => False) _).drew)) (fun hHeld => ?_)
      refine tk 0 rfl ?_
      refine tk 1 rfl ?_
      refine tk 2 rfl ?_
      refine tkL 3 rfl (yieldsIf_load_cell (by rfl) 84 (.tmp 18) rfl b 0 rfl _ (fun _ s => (hDb.out.keep (hKa.out.trans s) (fun f => f)).cell 0 (.map (some r)) rfl) (fun w s => load_ldmap w _ _ _ s)) ?_
      refine tkL 4 rfl (yieldsIf_load_mid (by rfl) 25 (.tmp 5) rfl wr.heap.size 0 rfl [.int .i64 type, .int .u32 id, .int .u32 adv] _ (fun _ s => (hB.out.keep s (fun f => f)).range) Try.underlying25 rfl keyInfo) ?_
      refine tkL 5 rfl (yieldsIf_lookup1 (by rfl) 84 (.tmp 19) (.tmp 20) rfl _ _ _ rfl rfl (fun _ s => hlook.out _ (hKa.out.trans s))) ?_
      refine step2L 6 10 rfl rfl (by kernel_rfl) (fun K hK => ?_) (fun K hK => ?_)
      focus
        have hm6 := hm3'.out.keepC (hKa.out.trans hHeld) (fun _ _ _ _ _ f => f)
        go_simp
        rw [← hX'.out]
        refine (ldHeadOf_yes m H _ (Lib.hid hm6) hmf hmc hmh).mono ?_
        rintro e wC ⟨rfl, kC⟩
        go_wp2_with fail
        refine hK.out _ _ (hHeld.trans kC) (fun hHeld => ?_)
        clear hK K
        try simp only [Act.put, sA, sZ, sS]
        have hsz := hHeld.size
        refine tk 7 rfl ?_
        refine tk 8 rfl ?_
        refine tk 9 rfl ?_
        refine stepL 10 rfl (by kernel_rfl) (fun K hK => ?_)
        go_simp
        refine hK.out _ _ ((hHeld.alloc _)) (fun hHeld => ?_)
        clear hK K
        try simp only [Act.put, sA, sZ, sS]
        refine stepL 11 rfl (by kernel_rfl) (fun K hK => ?_)
        rw [if_pos (by rfl)]
        (refine wp_store_mid 82 (.tmp 6) (.tmp 23) rfl wC.heap.size 0 #[.int .i64 H.age, .int .i64 H.type, .int .u32 H.id, .int .u32 H.adv, .int .i64 H.seq, .int .u16 H.sum, .int .i64 H.len] rfl rfl (BlkAt.there (BlkAt.new wC 82 [.int .i64 0, .int .i64 0, .int .u32 0, .int .u32 0, .int .i64 0, .int .u16 0, .int .i64 0]) 0 7 (Nat.le_refl 7)) headInfo (head_one _ _ _ _ _ _ _) ?_)
        refine hK.out _ _ ((hHeld.trans' (Keeps.setCells (F := fun k => k = wC.heap.size) (.inl rfl) _ _ _ (Keeps.refl _ _)) (fun i e => .inr (by rw [e]; exact hsz)))) (fun hHeld => ?_)
        clear hK K
        try simp only [Act.put, sA, sZ, sS]
        refine tk 12 rfl ?_
        refine wpAnyH_done (by kernel_rfl) (NoPanic.normal ?_) _
        have hO4 : Hid (BlkAt ((wC.alloc (.cells #[.int .i64 0, .int .i64 0, .int .u32 0, .int .u32 0, .int .i64 0, .int .u16 0, .int .i64 0] 82)).setCells wC.heap.size 0 [.int .i64 H.age, .int .i64 H.type, .int .u32 H.id, .int .u32 H.adv, .int .i64 H.seq, .int .u16 H.sum, .int .i64 H.len]) wC.heap.size 82 [.int .i64 H.age, .int .i64 H.type, .int .u32 H.id, .int .u32 H.adv, .int .i64 H.seq, .int .u16 H.sum, .int .i64 H.len]) := Lib.hid (blk_all (BlkAt.new wC 82 [.int .i64 0, .int .i64 0, .int .u32 0, .int .u32 0, .int .i64 0, .int .u16 0, .int .i64 0]) rfl)
        have hK4 := Lib.hid (hKa.out.trans hHeld)
        clear hHeld hsz hm6 kC
        obtain ⟨bh, hbh⟩ : ∃ z, wC.heap.size = z := ⟨_, rfl⟩
        rw [hbh] at hO4 hK4 ⊢
        generalize hgz : (wC.alloc (.cells #[.int .i64 0, .int .i64 0, .int .u32 0, .int .u32 0, .int .i64 0, .int .u16 0, .int .i64 0] 82)).setCells bh 0 [.int .i64 H.age, .int .i64 H.type, .int .u32 H.id, .int .u32 H.adv, .int .i64 H.seq, .int .u16 H.sum, .int .i64 H.len] = W4 at hO4 hK4 ⊢
        clear hgz hbh
      rotate_left
      focus
        go_simp
        refine hK.out _ _ ((hHeld.alloc _)) (fun hHeld => ?_)
        clear hK K
        try simp only [Act.put, sA, sZ, sS]
        have hm6 := hm3'.out.keepC (hKa.out.trans hHeld) (fun _ _ _ _ _ f => f)
        have hR0 : BlkAt (Wa.drew.alloc (.cells #[.int .i64 0, .int .i64 0, .int .u32 0, .int .u32 0, .int .i64 0, .int .u16 0, .int .i64 0] 82)) Wa.heap.size 82 [.int .i64 0, .int .i64 0, .int .u32 0, .int .u32 0, .int .i64 0, .int .u16 0, .int .i64 0] := BlkAt.new Wa.drew 82 [.int .i64 0, .int .i64 0, .int .u32 0, .int .u32 0, .int .i64 0, .int .u16 0, .int .i64 0]
        rw [← hX'.out]
        refine stepL 6 rfl (by kernel_rfl) (fun K hK => ?_)
        go_simp
        (refine (ldHeadOf_yes m H _ (Lib.hid hm6) hmf hmc hmh).mono ?_; rintro e wC ⟨rfl, kC⟩)
        go_wp2_with fail
        refine hK.out _ _ ((hHeld.trans kC)) (fun hHeld => ?_)
        clear hK K
        try simp only [Act.put, sA, sZ, sS]
        have hR1 := hR0.keep kC (fun f => f)
        refine tk 7 rfl ?_
        refine tk 8 rfl ?_
        refine tk 9 rfl ?_
        refine stepL 11 rfl (by kernel_rfl) (fun K hK => ?_)
        rw [if_pos (by rfl)]
        (refine wp_store_mid 82 (.tmp 6) (.tmp 23) rfl Wa.heap.size 0 #[.int .i64 H.age, .int .i64 H.type, .int .u32 H.id, .int .u32 H.adv, .int .i64 H.seq, .int .u16 H.sum, .int .i64 H.len] rfl rfl (BlkAt.there hR1 0 7 (Nat.le_refl 7)) headInfo (head_one _ _ _ _ _ _ _) ?_)
        refine hK.out _ _ ((hHeld.trans' (Keeps.setCells (F := fun k => k = Wa.heap.size) (.inl rfl) _ _ _ (Keeps.refl _ _)) (fun i e => .inr (by rw [e]; exact Nat.le_refl _)))) (fun hHeld => ?_)
        clear hK K
        try simp only [Act.put, sA, sZ, sS]
        refine tk 12 rfl ?_
        refine wpAnyH_done (by kernel_rfl) (NoPanic.normal ?_) _
        have hO4 : Hid (BlkAt (wC.setCells Wa.heap.size 0 [.int .i64 H.age, .int .i64 H.type, .int .u32 H.id, .int .u32 H.adv, .int .i64 H.seq, .int .u16 H.sum, .int .i64 H.len]) Wa.heap.size 82 [.int .i64 H.age, .int .i64 H.type, .int .u32 H.id, .int .u32 H.adv, .int .i64 H.seq, .int .u16 H.sum, .int .i64 H.len]) := Lib.hid (blk_all hR1 rfl)
        have hK4 := Lib.hid (hKa.out.trans hHeld)
        clear hHeld hm6 kC hR0 hR1
        obtain ⟨bh, hbh⟩ : ∃ z, Wa.heap.size = z := ⟨_, rfl⟩
        rw [hbh] at hO4 hK4 ⊢
        generalize hgz : wC.setCells bh 0 [.int .i64 H.age, .int .i64 H.type, .int .u32 H.id, .int .u32 H.adv, .int .i64 H.seq, .int .u16 H.sum, .int .i64 H.len] = W4 at hO4 hK4 ⊢
        clear hgz hbh
      all_goals
        have hE4 := hE.out.keep hK4.out (fun _ _ f => f)
        have kd := (Keeps.refl (fun _ => False) W4).alloc (.cells #[.int .i64 H.age, .int .i64 H.type, .int .u32 H.id, .int .u32 H.adv, .int .i64 H.seq, .int .u16 H.sum, .int .i64 H.len] 82)
        have hAd := Lib.hid (hE4.keep kd (fun _ _ f => f))
        have hKd := Lib.hid ((hK.out.trans hK4.out).trans kd)
        have hcn := Lib.hid (cells_newH (w := W4) rfl H)
        clear kd hE4
        go_wp2_with (first | ((with_reducible refine at_slot 26 ?_); refine wpList_load_mid rfl 82 (.tmp 6) rfl bh 0 rfl [.int .i64 H.age, .int .i64 H.type, .int .u32 H.id, .int .u32 H.adv, .int .i64 H.seq, .int .u16 H.sum, .int .i64 H.len] _ hO4.out.range Try.underlying82 rfl headInfo ?_) | ((with_reducible refine at_slot 28 ?_); refine wpList_append_r rfl (.tmp 25) (.tmp 27) 41 82 rfl ik _ 48 Try.underlying41 hik hkz hksz hkby rfl (by decide) (by decide) headVals_len w1 _ i ((L.take i).map hdD) hlen.out rfl hAd.out _ rfl H hcn.out (headVals_one _) (by omega) ?_; intro q8 d8 w8 hO8 hg8))
        have hK8 := Lib.hid (hKd.out.trans' hg8.out.k (fun i e => .inr (hAd.out.2.1 i e)))
        exact ⟨⟨i + 1, q8, d8, by omega, by go_num, rfl, by rw [htk.out]; exact hO8, hK8⟩, by simp [intOf]; omega⟩
    · obtain rfl : i = L.length := by omega
      go_wp2_with fail
      go_ret
      rw [List.take_length] at *
      exact ⟨_, rfl, hE.out.older hk'.out.size, hk'.out.trans hK.out⟩
end Go.Proofs.Ytdaongflpllfhaa
/- lsdb: Put of one that can't be; all of no Db. -/
set_option linter.unusedVariables false
set_option linter.unusedSimpArgs false
namespace Go.Proofs.Ytdaongflpllfhaa
open Go.RowKit

theorem ret_cell_tmpK {P : Program} {fn : Func} {p u : Tmp} {ty : TypeId} (h : fn.results = #[.cell p ty, .tmp u]) (tmps : Array Value) (w : World) (b : Nat) (cs : List Value) (d : TypeDesc) (hp : tmps.getD p undef = .pointer (some ⟨b, 0, none⟩))
    (hc : w.rangeAt b 0 cs) (hu : P.underlying ty = some d) (hd : d.isRow = true) (hi : (P.info? ty).map (·.size) = some cs.length) : (results fn tmps).run P w = .ok (.tuple #[.agg cs.toArray, tmps.getD u undef]) w := by
  rw [results_cell_tmp h, hp]
  have hl := run_loadVar_mid w b 0 ty cs d hc hu hd hi
  simp only [asAddr, Sem.run_pure, Result.andThen, hl]
set_option maxRecDepth 100000 in
set_option maxHeartbeats 2000000 in
theorem ldPut_cannot (p : Option Addr) (m : LsaM) (hc : Hid (canB m.d = false)) (hl5 : m.d.links.length ≤ 9223372036854775807) (hl7 : m.d.routers.length ≤ 9223372036854775807) (w : World) (hI : Hid (LsaIn w m)) :
    Calls Try.prog 9 #[.pointer p, .agg (lsaRow m).toArray] w fun e w' => e = .returned (.tuple #[.bool false, .int .i64 1]) ∧ Keeps (fun _ => False) w w' := by
  obtain ⟨X, hX⟩ : ∃ X, lsaRow m = X := ⟨_, rfl⟩
  have hXl : Hid (X.length = 9) := Lib.hid (by rw [← hX]; rfl)
  have hX' := Lib.hid hX
  rw [hX]
  obtain ⟨W0, hW0⟩ : ∃ W0, W0 = w.alloc (.cells X.toArray 29) := ⟨_, rfl⟩
  have hB : Hid (BlkAt W0 w.heap.size 29 X) := Lib.hid (by rw [hW0]; exact BlkAt.new w 29 X)
  have hK : Hid (Keeps (fun _ => False) w W0) := Lib.hid (by rw [hW0]; exact (Keeps.refl _ _).alloc _)
  have hI0 := Lib.hid (hI.out.keepC hK.out (fun _ _ _ _ _ f => f))
  have hW0' := Lib.hid hW0
  clear hW0 hX hI
  go_enter Try.func9, Try.ntmps9
  go_upto_region 1 with fail
  rw [← hW0'.out]
  clear hW0'
  go_wp2_with ((with_reducible refine at_slot 11 ?_); refine wpList_load_mid rfl 29 (.tmp 3) rfl w.heap.size 0 rfl _ _ hB.out.range Try.underlying29 rfl (by rw [hXl.out]; exact lsaInfo) ?_)
  rw [← hX'.out]
  refine (ldHeadOf_no m _ hI0 hl5 hl7 hc).mono ?_
  rintro e w2 ⟨rfl, k2⟩
  have hK2 := Lib.hid (hK.out.trans k2)
  clear k2 hK hB hI0
  cases p with
  | none =>
    go_wp2_with ((with_reducible refine at_store 6 ?_); refine wpList_store_new rfl 82 (.tmp 6) (.tmp 13) rfl _ _ rfl rfl headInfo rfl (head_one _ _ _ _ _ _ _) ?_)
    go_ret2
    exact ⟨rfl, hK2.out.alloc _⟩
  | some q =>
    go_wp2_with ((with_reducible refine at_store 6 ?_); refine wpList_store_new rfl 82 (.tmp 6) (.tmp 13) rfl _ _ rfl rfl headInfo rfl (head_one _ _ _ _ _ _ _) ?_)
    go_ret2
    exact ⟨rfl, hK2.out.alloc _⟩
theorem ldCount_l (b r N : Nat) (L : List LsaD) (w : World) (h : Hid (DbL w b r N L)) : Calls Try.prog 14 #[.pointer (some ⟨b, 0, none⟩)] w fun e w' => e = .returned (.int .i64 L.length) ∧ w = w' := by
  obtain ⟨K, hDK⟩ := h.out
  exact ldCount_g b r N L.length K _ w (Lib.hid hDK)
/-- d.Put(l) -/
theorem ldPut_g (b r N : Nat) (L : List LsaD) (hF : Hid (FineL L)) (m : LsaM) (hf : Hid (LsaFine m.d)) (hl5 : m.d.links.length ≤ 9223372036854775807) (hl7 : m.d.routers.length ≤ 9223372036854775807) (hN : N < 1000000) (w : World) (hI : Hid (LsaIn w m)) (h : Hid (DbL w b r N L)) :
    Calls Try.prog 9 #[.pointer (some ⟨b, 0, none⟩), .agg (lsaRow m).toArray] w fun e w' => e = .returned (.tuple #[.bool (putA L m.d).2.1, .int .i64 (putA L m.d).2.2]) ∧ DbL w' b r (N + 1) (putA L m.d).1 ∧ Keeps (fun k => k = r) w w' := by
  by_cases hc : canB m.d = true
  · exact ldPut_can b r N L hF m (Lib.hid (good_of hc hf.out)) hN w hI h
  · have hc : canB m.d = false := by simpa using hc
    have e : putA L m.d = (L, false, 1) := by unfold putA; rw [hc]; rfl
    rw [e]
    refine (ldPut_cannot _ m (Lib.hid hc) hl5 hl7 w hI).mono ?_
    rintro x w' ⟨rfl, k⟩
    exact ⟨rfl, (h.out.keep k).mono (by omega), k.mono (fun i f => f.elim)⟩
theorem ldFind_nil (t : Int) (i a : Nat) (w : World) : Calls Try.prog 8 #[.pointer none, .agg #[.int .i64 t, .int .u32 i, .int .u32 a]] w fun e w' => e = .returned (.tuple #[zeroLsa, .bool false]) ∧ Keeps (fun _ => False) w w' := by
  go_enter Try.func8, Try.ntmps8
  go_wp2_with fail
  have hz := BlkAt.new (w.alloc (.cells #[.int .i64 t, .int .u32 i, .int .u32 a] 25)) 29 [.int .i64 0, .int .i64 0, .int .u32 0, .int .u32 0, .int .i64 0, .slice none 0 0, .int .u32 0, .slice none 0 0, .int .i64 0]
  rw [show (w.alloc (.cells #[.int .i64 t, .int .u32 i, .int .u32 a] 25)).heap.size = w.heap.size + 1 by simp] at hz
  exact bodyPost_ret (ret_cell_tmpK rfl _ _ (w.heap.size + 1) _ _ rfl hz.range Try.underlying29 rfl lsaInfo) rfl ⟨rfl, ((Keeps.refl _ _).alloc _).alloc _⟩
theorem ldDrop_nil (t : Int) (i a : Nat) (w : World) : Calls Try.prog 11 #[.pointer none, .agg #[.int .i64 t, .int .u32 i, .int .u32 a]] w fun e w' => e = .returned (.bool false) ∧ Keeps (fun _ => False) w w' := by
  go_enter Try.func11, Try.ntmps11
  go_wp2_with fail
  go_ret
  exact ⟨rfl, (Keeps.refl _ _).alloc _⟩
theorem ldCount_nil (w : World) : Calls Try.prog 14 #[.pointer none] w fun e w' => e = .returned (.int .i64 0) ∧ w = w' := by
  go_enter Try.func14, Try.ntmps14
  go_wp2_with fail
  go_ret
  exact ⟨rfl, rfl⟩
theorem ldCopy_nil (w : World) : Calls Try.prog 15 #[.pointer none] w fun e w' => e = .returned (.pointer none) ∧ w = w' := by
  go_enter Try.func15, Try.ntmps15
  go_wp2_with fail
  go_ret
  exact ⟨rfl, rfl⟩
theorem ldTick_nil (w : World) : Calls Try.prog 12 #[.pointer none] w fun e w' => e = .returned (.slice none 0 0) ∧ w = w' := by
  go_enter Try.func12, Try.ntmps12
  go_wp2_with fail
  refine (ldKeys_nil w).mono ?_
  rintro e w' ⟨rfl, rfl⟩
  go_wp2_with fail
  go_loopw [10, 3] (fun iv ev wr => iv = .int .i64 0 ∧ ev = .slice none 0 0 ∧ wr = w) (fun _ _ _ => 0)
  case atStart => exact ⟨rfl, rfl, rfl⟩
  case round =>
    obtain ⟨rfl, rfl, rfl⟩ := hrel
    go_wp2_with fail
    go_ret
    exact ⟨rfl, rfl⟩
theorem ldHeads_nil (w : World) : Calls Try.prog 13 #[.pointer none] w fun e w' => e = .returned (.slice none 0 0) ∧ w = w' := by
  go_enter Try.func13, Try.ntmps13
  go_wp2_with fail
  refine (ldKeys_nil w).mono ?_
  rintro e w' ⟨rfl, rfl⟩
  go_wp2_with fail
  go_loopw [11, 3] (fun iv ev wr => iv = .int .i64 0 ∧ ev = .slice none 0 0 ∧ wr = w) (fun _ _ _ => 0)
  case atStart => exact ⟨rfl, rfl, rfl⟩
  case round =>
    obtain ⟨rfl, rfl, rfl⟩ := hrel
    go_wp2_with fail
    go_ret
    exact ⟨rfl, rfl⟩
end Go.Proofs.Ytdaongflpllfhaa
/- The document's Right of an Lsa, walked (gen_ly.py writes this). -/
namespace Go.Proofs.Ytdaongflpllfhaa
open Go.RowKit

theorem zero_beq (n : Nat) : ((n : Int) == 0) = decide (n = 0) := by cases n with
  | zero => rfl
  | succ n => rw [beq_eq_false_iff_ne.2 (by omega), decide_eq_false (by omega)]
set_option maxRecDepth 100000 in
set_option maxHeartbeats 4000000 in
theorem r10Right_any (age type seq cost : Int) (id adv mask : Nat) (links : List LinkD) (routers : List Nat) (p5 p7 : Option Addr) (c5 c7 : Nat) (z : Bool) (w : World)
    (hl : Hid (LinksAt w (.slice p5 links.length c5) links)) (hll : links.length ≤ 9223372036854775807) (hrl : routers.length ≤ 9223372036854775807) (hz : Hid (canB ⟨age, type, id, adv, seq, links, mask, routers, cost⟩ = z)) :
    Calls Try.prog 33 #[.agg #[.int .i64 age, .int .i64 type, .int .u32 id, .int .u32 adv, .int .i64 seq, .slice p5 links.length c5, .int .u32 mask, .slice p7 routers.length c7, .int .i64 cost]] w (fun e w' => e = .returned (.bool z) ∧ Keeps (fun _ => False) w w') := by
  have hkw : Hid (Keeps (fun _ => False) w (w.alloc (.cells #[.int .i64 age, .int .i64 type, .int .u32 id, .int .u32 adv, .int .i64 seq, .slice p5 links.length c5, .int .u32 mask, .slice p7 routers.length c7, .int .i64 cost] 48))) := Lib.hid ((Keeps.refl _ _).alloc _)
  have hL := Lib.hid (hl.out.keep hkw.out)
  have hz0 := hz.out
  clear hz hl
  unfold canB at hz0
  simp only at hz0
  rcases (show age < 0 ∨ (¬ age < 0 ∧ age > 3600) ∨ (¬ age < 0 ∧ ¬ age > 3600 ∧ seq < -2147483647) ∨ (¬ age < 0 ∧ ¬ age > 3600 ∧ ¬ seq < -2147483647 ∧ seq > 2147483647) ∨ (¬ age < 0 ∧ ¬ age > 3600 ∧ ¬ seq < -2147483647 ∧ ¬ seq > 2147483647) by omega) with h1 | ⟨h1, h2⟩ | ⟨h1, h2, h3⟩ | ⟨h1, h2, h3, h4⟩ | ⟨h1, h2, h3, h4⟩
  · obtain rfl : false = z := by
      rw [← hz0, show withinB age 0 3600 = false from by unfold withinB; rw [decide_eq_false_iff_not]; omega]
      simp
    clear hz0
    go_enter Try.func33, Try.ntmps33
    go_wp2_with fail
    go_ret
    exact ⟨rfl, hkw.out⟩
  · obtain rfl : false = z := by
      rw [← hz0, show withinB age 0 3600 = false from by unfold withinB; rw [decide_eq_false_iff_not]; omega]
      simp
    clear hz0
    go_enter Try.func33, Try.ntmps33
    go_wp2_with fail
    go_ret
    exact ⟨rfl, hkw.out⟩
  · obtain rfl : false = z := by
      rw [← hz0, show withinB seq (-2147483647) 2147483647 = false from by unfold withinB; rw [decide_eq_false_iff_not]; omega]
      simp
    clear hz0
    go_enter Try.func33, Try.ntmps33
    go_wp2_with fail
    go_ret
    exact ⟨rfl, hkw.out⟩
  · obtain rfl : false = z := by
      rw [← hz0, show withinB seq (-2147483647) 2147483647 = false from by unfold withinB; rw [decide_eq_false_iff_not]; omega]
      simp
    clear hz0
    go_enter Try.func33, Try.ntmps33
    go_wp2_with fail
    go_ret
    exact ⟨rfl, hkw.out⟩
  · have hz1 : toldB ⟨age, type, id, adv, seq, links, mask, routers, cost⟩ = z := by
      rw [← hz0, show withinB age 0 3600 = true from by unfold withinB; rw [decide_eq_true_iff]; omega, show withinB seq (-2147483647) 2147483647 = true from by unfold withinB; rw [decide_eq_true_iff]; omega]
      rfl
    clear hz0
    unfold toldB at hz1
    simp only at hz1
    by_cases t1 : type = 1
    · subst t1
      rw [if_pos rfl] at hz1
      have hz2 := Lib.hid hz1
      clear hz1
      go_enter Try.func33, Try.ntmps33
      go_wp2_with fail
      go_loop [3] (fun iv => ∃ k : Nat, k ≤ links.length ∧ iv = .int .i64 k ∧ Hid ((links.take k).any wrongB = false)) (fun iv => links.length - (intOf iv).toNat)
      case atStart => exact ⟨0, by omega, rfl, Lib.hid (by simp)⟩
      case round =>
        obtain ⟨k, hk, rfl, hany⟩ := hrel
        by_cases hlk : k < links.length
        · obtain ⟨g, o, rfl, hr⟩ := hL.out.open (by omega)
          obtain ⟨l, hl1⟩ : ∃ l, links[k] = l := ⟨_, rfl⟩
          have r1 := hr k l (by rw [List.getElem?_eq_getElem hlk, hl1])
          have htk : Hid ((links.take (k + 1)).any wrongB = wrongB l) := Lib.hid (by
            rw [List.take_succ_eq_append_getElem hlk, List.any_append, hany.out, hl1]; simp)
          have hin : Hid (wrongB l = true → links.any wrongB = true) := Lib.hid (fun h => List.any_eq_true.2 ⟨links[k], List.getElem_mem _, by rw [hl1]; exact h⟩)
          obtain ⟨i1, d1, t1, s1⟩ := l
          have c2 := r1 2 (.int .i64 t1) rfl
          have c3 := r1 3 (.int .i64 s1) rfl
          clear hr r1 hl1 hany
          rcases (show t1 < 1 ∨ (¬ t1 < 1 ∧ t1 > 4) ∨ (¬ t1 < 1 ∧ ¬ t1 > 4 ∧ s1 < 0) ∨ (¬ t1 < 1 ∧ ¬ t1 > 4 ∧ ¬ s1 < 0 ∧ s1 > 65535) ∨ (¬ t1 < 1 ∧ ¬ t1 > 4 ∧ ¬ s1 < 0 ∧ ¬ s1 > 65535) by omega) with g1 | ⟨g1, g2⟩ | ⟨g1, g2, g3⟩ | ⟨g1, g2, g3, g4⟩ | ⟨g1, g2, g3, g4⟩
          · have hw : Hid (wrongB ⟨i1, d1, t1, s1⟩ = true) := Lib.hid (by
              unfold wrongB
              simp only
              rw [show withinB t1 1 4 = false from by unfold withinB; rw [decide_eq_false_iff_not]; omega]; simp)
            have hzf : Hid (false = z) := Lib.hid (by rw [← hz2.out, hin.out hw.out]; simp)
            clear hin htk hw
            go_wp2_with fail
            go_ret
            exact ⟨by rw [← hzf.out]; rfl, hkw.out⟩
          · have hw : Hid (wrongB ⟨i1, d1, t1, s1⟩ = true) := Lib.hid (by
              unfold wrongB
              simp only
              rw [show withinB t1 1 4 = false from by unfold withinB; rw [decide_eq_false_iff_not]; omega]; simp)
            have hzf : Hid (false = z) := Lib.hid (by rw [← hz2.out, hin.out hw.out]; simp)
            clear hin htk hw
            go_wp2_with fail
            go_ret
            exact ⟨by rw [← hzf.out]; rfl, hkw.out⟩
          · have hw : Hid (wrongB ⟨i1, d1, t1, s1⟩ = true) := Lib.hid (by
              unfold wrongB
              simp only
              rw [show withinB s1 0 65535 = false from by unfold withinB; rw [decide_eq_false_iff_not]; omega]; simp)
            have hzf : Hid (false = z) := Lib.hid (by rw [← hz2.out, hin.out hw.out]; simp)
            clear hin htk hw
            go_wp2_with fail
            go_ret
            exact ⟨by rw [← hzf.out]; rfl, hkw.out⟩
          · have hw : Hid (wrongB ⟨i1, d1, t1, s1⟩ = true) := Lib.hid (by
              unfold wrongB
              simp only
              rw [show withinB s1 0 65535 = false from by unfold withinB; rw [decide_eq_false_iff_not]; omega]; simp)
            have hzf : Hid (false = z) := Lib.hid (by rw [← hz2.out, hin.out hw.out]; simp)
            clear hin htk hw
            go_wp2_with fail
            go_ret
            exact ⟨by rw [← hzf.out]; rfl, hkw.out⟩
          · have hw : Hid ((links.take (k + 1)).any wrongB = false) := Lib.hid (by
              rw [htk.out]
              unfold wrongB
              simp only
              rw [show withinB t1 1 4 = true from by unfold withinB; rw [decide_eq_true_iff]; omega, show withinB s1 0 65535 = true from by unfold withinB; rw [decide_eq_true_iff]; omega]; rfl)
            clear hin htk
            go_wp2_with fail
            exact ⟨⟨k + 1, by omega, by go_num, hw⟩, by simp [intOf]; omega⟩
        · have hz3 : (decide (links.length ≤ 40) && (decide (mask = 0) && (decide (routers.length = 0) && decide (cost = 0)))) = z := by
            have h := hany.out
            rw [List.take_of_length_le (by omega)] at h
            rw [← hz2.out, h]; simp
          clear hany hz2
          obtain ⟨x1, k1⟩ : ∃ x, decide (links.length ≤ 40) = x := ⟨_, rfl⟩
          obtain ⟨x2, k2⟩ : ∃ x, decide (mask = 0) = x := ⟨_, rfl⟩
          obtain ⟨x3, k3⟩ : ∃ x, decide (routers.length = 0) = x := ⟨_, rfl⟩
          obtain ⟨x4, k4⟩ : ∃ x, decide (cost = 0) = x := ⟨_, rfl⟩
          rw [k1, k2, k3, k4] at hz3
          have b1 : decide ((links.length : Int) ≤ 40) = x1 := by rw [← k1, decide_eq_decide]; omega
          have b2 : ((mask : Int) == 0) = x2 := by rw [← k2]; exact zero_beq mask
          have b3 : ((routers.length : Int) == 0) = x3 := by rw [← k3]; exact zero_beq _
          have b4 : (cost == 0) = x4 := k4
          cases x1 <;> cases x2 <;> cases x3 <;> cases x4
          all_goals
            obtain rfl := hz3
            simp only [decide_eq_true_eq, decide_eq_false_iff_not] at k1 b1
            clear k2 k3 k4 b1
            go_wp2_with fail
            go_ret
            exact ⟨rfl, hkw.out⟩
    · rw [if_neg t1] at hz1
      by_cases t2 : type = 2
      · subst t2
        rw [if_pos rfl] at hz1
        obtain ⟨x1, k1⟩ : ∃ x, decide (links.length = 0) = x := ⟨_, rfl⟩
        obtain ⟨x4, k4⟩ : ∃ x, decide (cost = 0) = x := ⟨_, rfl⟩
        rw [k1, k4] at hz1
        have b1 : ((links.length : Int) == 0) = x1 := by rw [← k1]; exact zero_beq _
        have b4 : (cost == 0) = x4 := k4
        clear k1 k4
        rcases (show routers.length < 1 ∨ (¬ routers.length < 1 ∧ ¬ routers.length ≤ 40) ∨ (¬ routers.length < 1 ∧ routers.length ≤ 40) by omega) with g | ⟨g, g2⟩ | ⟨g, g2⟩
        · rw [show withinB routers.length 1 40 = false from by unfold withinB; rw [decide_eq_false_iff_not]; omega] at hz1
          cases x1 <;> cases x4
          all_goals
            obtain rfl := hz1
            go_enter Try.func33, Try.ntmps33
            go_wp2_with fail
            go_ret
            exact ⟨rfl, hkw.out⟩
        · rw [show withinB routers.length 1 40 = false from by unfold withinB; rw [decide_eq_false_iff_not]; omega] at hz1
          cases x1 <;> cases x4
          all_goals
            obtain rfl := hz1
            go_enter Try.func33, Try.ntmps33
            go_wp2_with fail
            go_ret
            exact ⟨rfl, hkw.out⟩
        · rw [show withinB routers.length 1 40 = true from by unfold withinB; rw [decide_eq_true_iff]; omega] at hz1
          cases x1 <;> cases x4
          all_goals
            obtain rfl := hz1
            go_enter Try.func33, Try.ntmps33
            go_wp2_with fail
            go_ret
            exact ⟨rfl, hkw.out⟩
      · rw [if_neg t2] at hz1
        by_cases t3 : type = 3
        · subst t3
          rw [if_pos rfl] at hz1
          obtain ⟨x1, k1⟩ : ∃ x, decide (links.length = 0) = x := ⟨_, rfl⟩
          obtain ⟨x4, k4⟩ : ∃ x, decide (routers.length = 0) = x := ⟨_, rfl⟩
          rw [k1, k4] at hz1
          have b1 : ((links.length : Int) == 0) = x1 := by rw [← k1]; exact zero_beq _
          have b4 : ((routers.length : Int) == 0) = x4 := by rw [← k4]; exact zero_beq _
          clear k1 k4
          rcases (show cost < 0 ∨ (¬ cost < 0 ∧ ¬ cost ≤ 16777215) ∨ (¬ cost < 0 ∧ cost ≤ 16777215) by omega) with g | ⟨g, g2⟩ | ⟨g, g2⟩
          · rw [show withinB cost 0 16777215 = false from by unfold withinB; rw [decide_eq_false_iff_not]; omega] at hz1
            cases x1 <;> cases x4
            all_goals
              obtain rfl := hz1
              go_enter Try.func33, Try.ntmps33
              go_wp2_with fail
              go_ret
              exact ⟨rfl, hkw.out⟩
          · rw [show withinB cost 0 16777215 = false from by unfold withinB; rw [decide_eq_false_iff_not]; omega] at hz1
            cases x1 <;> cases x4
            all_goals
              obtain rfl := hz1
              go_enter Try.func33, Try.ntmps33
              go_wp2_with fail
              go_ret
              exact ⟨rfl, hkw.out⟩
          · rw [show withinB cost 0 16777215 = true from by unfold withinB; rw [decide_eq_true_iff]; omega] at hz1
            cases x1 <;> cases x4
            all_goals
              obtain rfl := hz1
              go_enter Try.func33, Try.ntmps33
              go_wp2_with fail
              go_ret
              exact ⟨rfl, hkw.out⟩
        · rw [if_neg t3] at hz1
          obtain rfl : false = z := hz1
          go_enter Try.func33, Try.ntmps33
          go_wp2_with fail
          go_ret
          exact ⟨rfl, hkw.out⟩
end Go.Proofs.Ytdaongflpllfhaa
/- Numbers of whatever source behind numbers of the call's own; a new row of none. -/
namespace Go.Proofs.Ytdaongflpllfhaa
open Go.RowKit

theorem run_append_nums {P : Program} (w : World) (t ty : TypeId) (i : TypeInfo) (ht : P.underlying t = some (.slice 23)) (hi : P.info? 23 = some i) (hz : i.zero = some (.int .u32 0)) (hsize : i.size = 1) (hby : i.bytes = 4)
    (w0 : World) (v : Value) (xs : List Nat) (hown : OwnN w0 w v xs) (sv : Value) (l : List Nat) (hl : NumsAt w sv l) (hsz : xs.length + l.length ≤ 1000000000) :
    ∃ p c w', (Builtin.append_ #[t, t] ty #[v, sv]).run P w = .ok (.slice p (xs.length + l.length) c) w' ∧ OwnN w0 w' (.slice p (xs.length + l.length) c) (xs ++ l) ∧ Grown w v p (xs.length + l.length) c w' := by
  obtain ⟨sp, sc, rfl, hp, -, hlr⟩ := hl
  cases sp with
  | none =>
    have h0 : l.length = 0 := by
      rcases Nat.eq_zero_or_pos l.length with h | h
      · exact h
      · obtain ⟨b, o, e, _⟩ := hlr h; cases e
    have hc := hp rfl
    subst hc
    have hl0 : l = [] := List.length_eq_zero_iff.1 h0
    subst hl0
    obtain ⟨p, c, rfl⟩ := hown.slice
    exact ⟨p, c, w, run_append_owned_none (P := P) (w := w) 0 t ty 23 i 1 ht hi _ xs.length (xs.map nv) hown.1, by simpa using hown, Keeps.refl _ _, fun k e => .inl e⟩
  | some ad =>
    obtain ⟨v', w', hr, h2, h3, h4⟩ := run_append_sep (P := P) w t ty 23 i (.int .u32 0) 1 4 ht hi hz hsize hby rfl (by decide) v xs.length (xs.map nv) hown.1 ad l.length sc (l.map nv) (by simp) (fun j u hu => by
      have h0 : 0 < l.length := by
        have := (List.getElem?_eq_some_iff.1 hu).1; simp at this; omega
      obtain ⟨b, o, e, hr⟩ := hlr h0
      injection e with e; subst e
      rw [Addr.add_mid]; exact hr j u hu) (nv_one l) (by unfold maxLen; omega) (by omega)
    obtain ⟨p, c, rfl⟩ := ownsRow_slice h2
    refine ⟨p, c, w', hr, ⟨by rw [List.map_append, List.length_append]; exact h2, fun k e => ?_, Nat.le_trans hown.2.2 h3.size⟩, (Keeps.refl _ _).grown h3 (fun k e => .inl e), h4⟩
    rcases h4 k e with e | e
    · exact hown.2.1 k e
    · exact Nat.le_trans hown.2.2 e
/-- .. as one operation -/
theorem wp_append_nums {P : Program} {w : World} {o : Oper} {a : Act} {K : Act → World → Prop} {Q : Exit → Act → World → Prop} (s x : Operand) (t : TypeId)
    (ho : o.op = .call { callee := .builtin .append, args := #[s, x], argTypes := #[t, t] })
    (i : TypeInfo) (ht : P.underlying t = some (.slice 23)) (hi : P.info? 23 = some i) (hz : i.zero = some (.int .u32 0)) (hsize : i.size = 1) (hby : i.bytes = 4)
    (w0 : World) (v : Value) (n : Nat) (xs : List Nat) (hn : xs.length = n) (hs : a.eval s = v) (hown : OwnN w0 w v xs) (sv : Value) (hx : a.eval x = sv) (l : List Nat) (hl : NumsAt w sv l) (hsz : n + l.length ≤ 1000000000)
    (h : ∀ p c w', OwnN w0 w' (.slice p (n + l.length) c) (xs ++ l) → Grown w v p (n + l.length) c w' → K (a.put o.dst (.slice p (n + l.length) c)) w') : Oper.wp P o a w K Q := by
  subst hn
  obtain ⟨p, c, w', hr, h2, h3⟩ := run_append_nums (P := P) w t o.type i ht hi hz hsize hby w0 v xs hown sv l hl hsz
  unfold Oper.wp execOp
  simp only [ho, resolve, invoke, builtin, Sem.run_bind, Sem.run_pure, Result.andThen_ok, List.map_toArray, List.map_cons, List.map_nil, hs, hx, hr]
  exact h p c w' h2 h3
theorem OwnN.new (w0 w : World) (h : w0.heap.size ≤ w.heap.size) (l : List Nat) {n : Nat} (hn : l.length = n) (hm : n ≤ maxLen) : OwnN w0 (w.alloc (.cells (l.map nv).toArray 23)) (.slice (some ⟨w.heap.size, 0, none⟩) n n) l := by
  subst hn
  refine ⟨⟨by simp, .inr ⟨w.heap.size, l.length, (l.map nv).toArray, rfl, Nat.zero_le _, heap_alloc_last w _, Nat.le_refl _, hm, by simp, ?_⟩⟩, fun k e => by simp only [Value.ownBlock, Option.some.injEq] at e; omega, by simp; omega⟩
  rw [List.take_of_length_le (by simp)]
end Go.Proofs.Ytdaongflpllfhaa
