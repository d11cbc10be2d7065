/- setting, walked. -/
import Derived.Test.YtdannodhlaaoiaaGreatDoorWT13
set_option linter.unusedVariables false
set_option linter.unusedSimpArgs false
namespace Go.Proofs.YtdannodhlaaoiaaGreatDoor
open Go.RowKit

/-- a row of texts whose places are there -/
def StrsC (w : World) (v : Value) (xs : List (List UInt8)) : Prop := ∃ p c, v = .slice p xs.length c ∧ xs.length ≤ c ∧ (0 < xs.length → ∃ g o, p = some ⟨g, o, none⟩ ∧ w.rangeAt g o (xs.map strv))
theorem StrsC.at {w : World} {v : Value} {xs : List (List UInt8)} (h : StrsC w v xs) : StrsAt w v xs := by
  obtain ⟨p, c, e, _, h⟩ := h
  exact ⟨p, c, e, h⟩
theorem StrsC.keep {w w' : World} {v : Value} {xs : List (List UInt8)} (h : StrsC w v xs) (k : Keeps (fun _ => False) w w') : StrsC w' v xs := by
  obtain ⟨p, c, rfl, hc, h⟩ := h
  refine ⟨p, c, rfl, hc, fun h0 => ?_⟩
  obtain ⟨g, o, rfl, hr⟩ := h h0
  exact ⟨g, o, rfl, k.rangeAt hr id⟩
/-- what command answers -/
def CmdPost (f : Option CmdD) (w : World) (e : Ending) (w' : World) : Prop :=
  ∃ (a h : Int) (N L V : ByteArray) (n : Int), e = .returned (.tuple #[.agg #[.int .i64 a, .int .i64 h, .string N, .string L, .string V, .int .i64 n], .bool f.isSome]) ∧ Keeps (fun _ => False) w w' ∧
    (∀ c, f = some c → a = c.what ∧ h = c.head ∧ N.data.toList = c.name ∧ L.data.toList = c.leaf ∧ V.data.toList = c.value ∧ n = c.n)
theorem path_b (v : Value) (ws : List (List UInt8)) (b : Bool) (w : World) (hv : Hid (StrsAt w v ws)) (hs : ∀ x ∈ ws, x.length ≤ 9223372036854775807) (hb : Hid ((pathD ws).isSome = b)) :
    Calls Tryz.prog 93 #[v] w fun e w' => ∃ (h : Int) (N L : ByteArray), e = .returned (.tuple #[.agg #[.int .i64 h, .string N, .string L, .string ⟨#[]⟩], .bool b]) ∧ Keeps (fun _ => False) w w' ∧ (∀ x, pathD ws = some x → h = x.1 ∧ N.data.toList = x.2.1 ∧ L.data.toList = x.2.2) :=
  (path_any v ws _ w hv hs (Lib.hid rfl)).mono fun e w' ⟨h, N, L, he, hk, hx⟩ => ⟨h, N, L, by rw [he, hb.out], hk, hx⟩

set_option maxRecDepth 100000 in
set_option maxHeartbeats 1000000 in
theorem setting_any (v : Value) (ws : List (List UInt8)) (w : World) (hv : Hid (StrsC w v ws)) (hs : Hid (∀ x ∈ ws, x.length ≤ 9223372036854775807)) (hn : ws.length ≤ 1000000) :
    Calls Tryz.prog 92 #[v] w (CmdPost (settingD ws) w) := by
  obtain ⟨p, c, rfl, hc, hr⟩ := hv.out
  by_cases h0 : ws = []
  · subst h0
    go_enter Tryz.func92, Tryz.ntmps92
    go_wp2_with ((with_reducible refine at_store 2 ?_); refine wpList_store_new rfl 56 (.tmp 2) (.tmp 10) rfl _ #[.int .i64 0, .int .i64 0, .string ⟨#[]⟩, .string ⟨#[]⟩, .string ⟨#[]⟩, .int .i64 0] rfl rfl cmdInfo rfl (cmd_one _ _ _ _ _ _) ?_)
    refine bodyPost_ret (v := .tuple #[.agg #[.int .i64 0, .int .i64 0, .string ⟨#[]⟩, .string ⟨#[]⟩, .string ⟨#[]⟩, .int .i64 0], .bool false]) (ret_cell_tmp Tryz.results92 _ _ w.heap.size [.int .i64 0, .int .i64 0, .string ⟨#[]⟩, .string ⟨#[]⟩, .string ⟨#[]⟩, .int .i64 0] _ rfl (new_rangeb _ _ _) Tryz.underlying56 rfl cmdInfo) rfl ⟨_, _, _, _, _, _, rfl, ((Keeps.refl _ _).alloc _), fun _ h => by cases h⟩
  · obtain ⟨k, hk⟩ : ∃ k, ws.length = k + 1 := ⟨ws.length - 1, by have := List.length_pos_iff.2 h0; omega⟩
    obtain ⟨g, o, rfl, hrng⟩ := hr (by omega)
    rw [hk] at hc hn ⊢
    have hkc : k ≤ c := by omega
    have hlast : ws[k]? = some (ws.getLastD []) := by
      rw [List.getLastD_eq_getLast?, List.getLast?_eq_getElem?, hk]
      simp [hk]
    obtain ⟨V, hV⟩ : ∃ V : ByteArray, V = ⟨(ws.getLastD []).toArray⟩ := ⟨_, rfl⟩
    have hdV : w.cell? ⟨g, o + k, none⟩ = some (.string V) := by rw [hV]; exact hrng k _ (by rw [List.getElem?_map, hlast]; rfl)
    have hpre : Hid (StrsAt w (.slice (some ⟨g, o, none⟩) k c) ws.dropLast) := by
      have hl : ws.dropLast.length = k := by simp [hk]
      refine Lib.hid ⟨some ⟨g, o, none⟩, c, by rw [hl], fun _ => ⟨g, o, rfl, fun j u hu => hrng j u ?_⟩⟩
      rw [List.getElem?_map] at hu ⊢
      rw [List.getElem?_dropLast] at hu
      split at hu
      · exact hu
      · cases hu
    have hsz : Hid (∀ x ∈ ws.dropLast, x.length ≤ 9223372036854775807) := Lib.hid fun x hx => hs.out x ((List.dropLast_sublist ws).subset hx)
    obtain ⟨b, hb⟩ : ∃ b, (pathD ws.dropLast).isSome = b := ⟨_, rfl⟩
    have hk' := Lib.hid hk; have hb' := Lib.hid hb; have hb2 := Lib.hid hb; have hdV' := Lib.hid hdV; have hV' := Lib.hid hV
    have hVs : Hid (V.size ≤ 9223372036854775807) := Lib.hid (by rw [hV]; exact hs.out _ (List.mem_of_getElem? hlast))
    clear hr hv h0 hk hlast hb hV hrng hs hdV
    go_enter Tryz.func92, Tryz.ntmps92
    go_wp2_with fail
    refine (path_b _ ws.dropLast b _ (Lib.hid (hpre.out.keep ((Keeps.refl (fun _ => False) w).alloc _) (fun _ _ _ f => f))) hsz.out hb').mono ?_
    rintro e w2 ⟨h, N, L, rfl, k2, hx⟩
    have hx' := Lib.hid hx; have k2' := Lib.hid k2; clear hx k2 hpre hsz hb'
    obtain ⟨W3, hW3⟩ : ∃ W3, W3 = w2.alloc (.cells #[.int .i64 h, .string N, .string L, .string V] 50) := ⟨_, rfl⟩
    have cV := (((Keeps.refl (fun _ => False) w).alloc _).trans k2'.out |>.alloc (.cells #[.int .i64 h, .string N, .string L, .string ⟨#[]⟩] 50)).cell0 hdV'.out
    have cF := (BlkAt.new w2 50 [.int .i64 h, .string N, .string L, .string ⟨#[]⟩]).cell 3 _ rfl
    have fF := (BlkAt.new w2 50 [.int .i64 h, .string N, .string L, .string ⟨#[]⟩]).frozen 3
    have hsz2 : w.heap.size < w2.heap.size := by have := k2'.out.size; simp at this; omega
    have hBl : Hid (BlkAt W3 w2.heap.size 50 [.int .i64 h, .string N, .string L, .string V]) := Lib.hid (by rw [hW3]; exact BlkAt.new w2 50 [.int .i64 h, .string N, .string L, .string V])
    have k3 : Keeps (fun _ => False) w2 W3 := by rw [hW3]; exact (Keeps.refl _ _).alloc _
    have hBr : Hid (BlkAt W3 w.heap.size 56 [.int .i64 0, .int .i64 0, .string ⟨#[]⟩, .string ⟨#[]⟩, .string ⟨#[]⟩, .int .i64 0]) := Lib.hid (((BlkAt.new w 56 [.int .i64 0, .int .i64 0, .string ⟨#[]⟩, .string ⟨#[]⟩, .string ⟨#[]⟩, .int .i64 0]).keep k2'.out id).keep k3 id)
    have hK := Lib.hid ((((Keeps.refl (fun _ => False) w).alloc _).trans k2'.out).trans k3)
    have hW3' := Lib.hid hW3
    clear hW3 k3 k2' hdV'
    go_upto_region 6 with ((with_reducible refine at_store 5 ?_); refine wpList_store_new rfl 50 (.tmp 5) (.tmp 19) rfl _ #[.int .i64 h, .string N, .string L, .string ⟨#[]⟩] rfl rfl lineInfo rfl (line_one _ _ _ _) ?_)
    rw [← hW3'.out]
    clear hW3' cV cF fF
    cases b with
    | true =>
      obtain ⟨r, hr⟩ : ∃ r, rightV h L.data.toList V.data.toList = r := ⟨_, rfl⟩
      have hr' := Lib.hid hr; clear hr
      refine wp_region_noPanic ?_
      refine wp_region_held_drew (S := (fun W => Keeps (fun i => i = w.heap.size) W3 W)) (by kernel_rfl) (((Keeps.refl _ _).drew)) (fun hHeld => ?_)
      refine tkL 0 rfl (yieldsIf_load_mid (by rfl) 50 (.tmp 5) rfl w2.heap.size 0 rfl [.int .i64 h, .string N, .string L, .string V] _ (fun _ s => (hBl.out.keep s (by omega)).range) Tryz.underlying50 rfl lineInfo) ?_
      refine tk 1 rfl ?_
      refine tk 2 rfl ?_
      refine tk 3 rfl ?_
      refine tkL 4 rfl (yieldsIf_load_mid (by rfl) 50 (.tmp 5) rfl w2.heap.size 0 rfl [.int .i64 h, .string N, .string L, .string V] _ (fun _ s => (hBl.out.keep s (by omega)).range) Tryz.underlying50 rfl lineInfo) ?_
      refine stepL 5 rfl (by kernel_rfl) (fun K hK => ?_)
      go_simp
      (refine (rightValue_any h N L V r _ hVs.out hr').mono ?_; rintro e w4 ⟨rfl, hk4⟩; have hb4 := Lib.hid (hBr.out.keep (((Keeps.refl (fun _ => False) W3).drew).trans hk4) id); have hk4' := Lib.hid hk4; clear hk4)
      go_wp2_with fail
      refine hK.out _ _ ((hHeld.trans' hk4'.out (fun _ f => f.elim))) (fun hHeld => ?_)
      clear hK K
      try simp only [Act.put, sA, sZ, sS]
      refine tk 6 rfl ?_
      refine stepL 7 rfl (by kernel_rfl) (fun K hK => ?_)
      rw [if_pos (by rfl)]
      (refine wp_store_mid 56 (.tmp 2) (.tmp 27) rfl w.heap.size 0 #[.int .i64 1, .int .i64 h, .string N, .string L, .string V, .int .i64 0] rfl rfl (hb4.out.there 0 6 (Nat.le_refl 6)) cmdInfo (cmd_one _ _ _ _ _ _) ?_; have hs9 : Keeps (fun i => i = w.heap.size) (w4) ((w4).setCells w.heap.size 0 [.int .i64 1, .int .i64 h, .string N, .string L, .string V, .int .i64 0]) := Keeps.setCells (F := fun i => i = w.heap.size) (.inl rfl) _ _ _ (Keeps.refl _ _); have hr9 : ((w4).setCells w.heap.size 0 [.int .i64 1, .int .i64 h, .string N, .string L, .string V, .int .i64 0]).rangeAt w.heap.size 0 [.int .i64 1, .int .i64 h, .string N, .string L, .string V, .int .i64 0] := World.rangeAt_setCells_same _ _ _ _ (hb4.out.there 0 6 (Nat.le_refl 6)); simp only [] at hs9 hr9 ⊢; generalize (w4).setCells w.heap.size 0 [.int .i64 1, .int .i64 h, .string N, .string L, .string V, .int .i64 0] = w9 at hs9 hr9 ⊢)
      refine hK.out _ _ ((hHeld.trans' hs9 (fun i e => .inl e))) (fun hHeld => ?_)
      clear hK K
      try simp only [Act.put, sA, sZ, sS]
      refine tk 8 rfl ?_
      refine wpAnyH_done (by kernel_rfl) (NoPanic.normal ?_) _
      have hw9 := Lib.hid hHeld; have hr9 := Lib.hid hr9; clear hHeld hs9
      go_wp2_with fail
      refine bodyPost_ret (v := .tuple #[.agg #[.int .i64 1, .int .i64 h, .string N, .string L, .string V, .int .i64 0], .bool r]) (ret_cell_tmp Tryz.results92 _ _ w.heap.size [.int .i64 1, .int .i64 h, .string N, .string L, .string V, .int .i64 0] _ rfl hr9.out Tryz.underlying56 rfl cmdInfo) rfl ⟨1, h, N, L, V, 0, ?_, hK.out.trans' hw9.out (fun i e => .inr (by omega)), ?_⟩
      all_goals
        obtain ⟨q, hq⟩ := Option.isSome_iff_exists.1 hb2.out
        obtain ⟨q1, q2, q3⟩ := q
        obtain ⟨rfl, hN2, hL2⟩ := hx'.out _ hq
        simp only at hN2 hL2
        have hV2 : V.data.toList = ws.getLastD [] := by rw [hV'.out]
        have hR := hr'.out
        rw [hL2, hV2] at hR
        have hS : settingD ws = if r = true then some ⟨1, h, q2, q3, ws.getLastD [], 0⟩ else none := by unfold settingD; rw [hq]; simp only [hR]
      · rw [hS]; cases r <;> rfl
      · rw [hS]; intro cc hcc
        cases r with
        | true => (injection hcc with hcc; subst hcc; exact ⟨rfl, rfl, hN2, hL2, hV2, rfl⟩)
        | false => cases hcc
    | false =>
      refine wp_region_noPanic ?_
      refine wp_region_held_drew (S := (fun W => Keeps (fun i => i = w.heap.size) W3 W)) (by kernel_rfl) (((Keeps.refl _ _).drew)) (fun hHeld => ?_)
      refine tkL 0 rfl (yieldsIf_load_mid (by rfl) 50 (.tmp 5) rfl w2.heap.size 0 rfl [.int .i64 h, .string N, .string L, .string V] _ (fun _ s => (hBl.out.keep s (by omega)).range) Tryz.underlying50 rfl lineInfo) ?_
      refine tk 1 rfl ?_
      refine tk 2 rfl ?_
      refine tk 3 rfl ?_
      have hb4 := Lib.hid (hBr.out.keep ((Keeps.refl (fun _ => False) W3).drew) id)
      refine tkS 4 rfl ?_
      refine tkS 5 rfl ?_
      refine tk 6 rfl ?_
      refine stepL 7 rfl (by kernel_rfl) (fun K hK => ?_)
      rw [if_pos (by rfl)]
      (refine wp_store_mid 56 (.tmp 2) (.tmp 27) rfl w.heap.size 0 #[.int .i64 1, .int .i64 h, .string N, .string L, .string V, .int .i64 0] rfl rfl (hb4.out.there 0 6 (Nat.le_refl 6)) cmdInfo (cmd_one _ _ _ _ _ _) ?_; have hs9 : Keeps (fun i => i = w.heap.size) (W3.drew) ((W3.drew).setCells w.heap.size 0 [.int .i64 1, .int .i64 h, .string N, .string L, .string V, .int .i64 0]) := Keeps.setCells (F := fun i => i = w.heap.size) (.inl rfl) _ _ _ (Keeps.refl _ _); have hr9 : ((W3.drew).setCells w.heap.size 0 [.int .i64 1, .int .i64 h, .string N, .string L, .string V, .int .i64 0]).rangeAt w.heap.size 0 [.int .i64 1, .int .i64 h, .string N, .string L, .string V, .int .i64 0] := World.rangeAt_setCells_same _ _ _ _ (hb4.out.there 0 6 (Nat.le_refl 6)); simp only [] at hs9 hr9 ⊢; generalize (W3.drew).setCells w.heap.size 0 [.int .i64 1, .int .i64 h, .string N, .string L, .string V, .int .i64 0] = w9 at hs9 hr9 ⊢)
      refine hK.out _ _ ((hHeld.trans' hs9 (fun i e => .inl e))) (fun hHeld => ?_)
      clear hK K
      try simp only [Act.put, sA, sZ, sS]
      refine tk 8 rfl ?_
      refine wpAnyH_done (by kernel_rfl) (NoPanic.normal ?_) _
      have hw9 := Lib.hid hHeld; have hr9 := Lib.hid hr9; clear hHeld hs9
      go_wp2_with fail
      refine bodyPost_ret (v := .tuple #[.agg #[.int .i64 1, .int .i64 h, .string N, .string L, .string V, .int .i64 0], .bool false]) (ret_cell_tmp Tryz.results92 _ _ w.heap.size [.int .i64 1, .int .i64 h, .string N, .string L, .string V, .int .i64 0] _ rfl hr9.out Tryz.underlying56 rfl cmdInfo) rfl ⟨1, h, N, L, V, 0, ?_, hK.out.trans' hw9.out (fun i e => .inr (by omega)), ?_⟩
      all_goals
        have hS : settingD ws = none := by
          have hq : pathD ws.dropLast = none := by simpa using hb2.out
          unfold settingD; rw [hq]
      · rw [hS]; rfl
      · rw [hS]; intro cc hcc; cases hcc
end Go.Proofs.YtdannodhlaaoiaaGreatDoor
