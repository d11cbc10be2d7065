/- lsdb.Tick of a Db of whatever Lsas. -/
import Derived.Test.YtdaongflpllfhaaLS14
import Derived.Test.YtdaongflpllfhaaLS12
set_option linter.unusedVariables false
set_option linter.unusedSimpArgs false
set_option linter.unusedVariables false
set_option linter.unusedSimpArgs false
namespace Go.Proofs.Ytdaongflpllfhaa
open Go.RowKit

theorem keyInfoAllK : (Try.prog.info? 25).map (fun i => (i.zero, i.size, i.bytes)) = some (some (.agg #[.int .i64 0, .int .u32 0, .int .u32 0]), 3, 16) := by kernel_rfl
theorem headInfoAllK : (Try.prog.info? 82).map (fun i => (i.zero, i.size, i.bytes)) = some (some (.agg #[.int .i64 0, .int .i64 0, .int .u32 0, .int .u32 0, .int .i64 0, .int .u16 0, .int .i64 0]), 7, 48) := by kernel_rfl
theorem yieldsIf_lookup1 {P : Program} {ops : Array Oper} {S : World → Prop} {op : Oper} {a : Act} (hw : Region.wanted op (yielded ops a.tmps) = true) (ty : TypeId) (x k : Operand) (ho : op.op = .lookup ty x k false) (xv kv v : Value) (hx : a.eval x = xv) (hk : a.eval k = kv)
    (hS : ∀ w, S w → (Instr.lookup ty xv kv false).run P w = .ok v w) : YieldsIf P ops S op v a :=
  .inl ⟨hw, fun w hw' => by
    unfold execOp
    simp only [ho, hx, hk, Sem.run_bind, hS w hw', Result.andThen_ok]; rfl⟩
theorem tickD_old {d : LsaD} (h : ¬ d.age < 3600) : tickD d = d := by unfold tickD; rw [if_neg h]
theorem tickD_young {d : LsaD} (h : d.age < 3600) : tickD d = { d with age := d.age + 1 } := by unfold tickD; rw [if_pos h]
theorem set_self {α : Type} {L : List α} {i : Nat} {x : α} (h : L[i]? = some x) : L.set i x = L := by
  obtain ⟨hi, rfl⟩ := List.getElem?_eq_some_iff.1 h
  exact List.set_getElem_self hi
/-- these, of which the first i have been let grow older -/
def tickTo (i : Nat) (L : List LsaD) : List LsaD := (L.take i).map tickD ++ L.drop i
theorem tickTo_zero (L : List LsaD) : tickTo 0 L = L := by simp [tickTo]
theorem tickTo_all (L : List LsaD) : tickTo L.length L = L.map tickD := by simp [tickTo]
theorem tickTo_len (i : Nat) (L : List LsaD) : (tickTo i L).length = L.length := by simp [tickTo]; omega
theorem tickTo_keys (i : Nat) (L : List LsaD) : (tickTo i L).map kOf = L.map kOf := by
  unfold tickTo
  rw [List.map_append, List.map_map, show kOf ∘ tickD = kOf from funext tickD_k, ← List.map_append, List.take_append_drop]
theorem tickTo_get {i : Nat} {L : List LsaD} {d : LsaD} (h : L[i]? = some d) : (tickTo i L)[i]? = some d := by
  have hi := (List.getElem?_eq_some_iff.1 h).1
  unfold tickTo
  have e : ((L.take i).map tickD).length = i := by simp; omega
  rw [List.getElem?_append_right (by omega), e, Nat.sub_self, List.getElem?_drop]
  simpa using h
theorem tickTo_set {i : Nat} {L : List LsaD} {d : LsaD} (h : L[i]? = some d) : (tickTo i L).set i (tickD d) = tickTo (i + 1) L := by
  obtain ⟨hi, rfl⟩ := List.getElem?_eq_some_iff.1 h
  unfold tickTo
  have e : ((L.take i).map tickD).length = i := by simp; omega
  rw [List.set_append_right _ _ (by omega), e, Nat.sub_self, List.drop_eq_getElem_cons hi, List.set_cons_zero, List.take_add_one, List.getElem?_eq_getElem hi, List.map_append]
  simp only [Option.toList, List.map_cons, List.map_nil, List.append_assoc, List.singleton_append]
theorem rises_keys {A B : List LsaD} (h : Rises A) (e : B.map kOf = A.map kOf) : Rises B := by
  unfold Rises at *
  rw [← List.pairwise_map (f := kOf) (R := ltK)] at h ⊢
  rw [e]; exact h
theorem FineL.tickTo {L : List LsaD} (h : FineL L) (i : Nat) : FineL (tickTo i L) := by
  refine ⟨rises_keys h.up (tickTo_keys i L), fun d hd => ?_, by rw [tickTo_len]; exact h.few⟩
  unfold Proofs.Ytdaongflpllfhaa.tickTo at hd
  rcases List.mem_append.1 hd with hd | hd
  · obtain ⟨o, ho, rfl⟩ := List.mem_map.1 hd
    exact (h.good o (List.mem_of_mem_take ho)).tick
  · exact h.good d (List.mem_of_mem_drop hd)
theorem endK_snoc {i : Nat} {L : List LsaD} {d : LsaD} (h : L[i]? = some d) : endK (L.take (i + 1)) = if endsD d then endK (L.take i) ++ [kOf d] else endK (L.take i) := by
  unfold endK
  rw [take_snoc h, List.filter_append, List.map_append]
  by_cases he : endsD d = true
  · rw [if_pos he, List.filter_cons_of_pos he]; rfl
  · rw [if_neg he, List.filter_cons_of_neg he]; simp
theorem endK_len (i : Nat) (L : List LsaD) : (endK (L.take i)).length ≤ i := by
  unfold endK
  rw [List.length_map]
  exact Nat.le_trans (List.length_filter_le _ _) (by rw [List.length_take]; omega)
/-- a Db in memory that has these, whose lists lay there at w0 -/
def DbO (w0 w : World) (b r N : Nat) (L : List LsaD) : Prop := ∃ K, BlkAt w b 86 [.map (some r)] ∧ KAt w r N K L.length ∧ ∀ t i a, kOk t i a → ValK w0 (K t i a) (mapL L t i a)
theorem DbL.o {w : World} {b r N : Nat} {L : List LsaD} (h : DbL w b r N L) : DbO w w b r N L := by
  obtain ⟨K, h⟩ := h
  exact ⟨K, h.blk, h.map, h.val⟩
theorem DbO.l {F : Nat → Prop} {w0 w : World} {b r N : Nat} {L : List LsaD} (h : DbO w0 w b r N L) (k : Keeps F w0 w) (hF : ∀ i cur t x, w0.heap[i]? = some (.cells cur t x) → ¬ F i) : DbL w b r N L := by
  obtain ⟨K, h1, h2, h3⟩ := h
  exact ⟨K, h1, h2, fun t i a ho => (h3 t i a ho).keep k hF⟩
theorem DbO.keep {F : Nat → Prop} {w0 w w' : World} {b r N : Nat} {L : List LsaD} (h : DbO w0 w b r N L) (k : Keeps F w w') (hb : ¬ F b) (hr : ¬ F r) : DbO w0 w' b r N L := by
  obtain ⟨K, h1, h2, h3⟩ := h
  exact ⟨K, h1.keep k hb, h2.keep k hr, h3⟩
theorem DbO.mono {w0 w : World} {b r N N' : Nat} {L : List LsaD} (h : DbO w0 w b r N L) (hN : N ≤ N') : DbO w0 w b r N' L := by
  obtain ⟨K, h1, h2, h3⟩ := h
  exact ⟨K, h1, h2.mono hN, h3⟩
theorem DbO.ne {w0 w : World} {b r N : Nat} {L : List LsaD} (h : DbO w0 w b r N L) : ¬ b = r := by
  obtain ⟨K, h1, h2, h3⟩ := h
  exact map_not_cells h2 b _ _ _ h1
theorem DbO.lt {w0 w : World} {b r N : Nat} {L : List LsaD} (h : DbO w0 w b r N L) : b < w.heap.size ∧ r < w.heap.size := by
  obtain ⟨K, h1, h2, h3⟩ := h
  exact ⟨lt_of_block h1, h2.lt⟩
theorem DbO.put {w0 w : World} {b r N : Nat} {L : List LsaD} (h : DbO w0 w b r N L) (hr : Rises L) (hN : N < 1000000) (m : LsaM) (ho : kOk m.d.type m.d.id m.d.adv) (hm : LsaIn w0 m) :
    ∃ w', (Instr.mapUpdate 84 (.map (some r)) (keyA m.d.type m.d.id m.d.adv) (.agg (lsaRow m).toArray)).run Try.prog w = .ok () w' ∧ DbO w0 w' b r (N + 1) (putR m.d L) ∧ Keeps (fun i => i = r) w w' ∧ w'.heap.size = w.heap.size := by
  have hne := h.ne
  obtain ⟨K, h1, h2, h3⟩ := h
  obtain ⟨w', e1, e2, e3, e4⟩ := h2.put hN ho (.agg (lsaRow m).toArray)
  refine ⟨w', e1, ⟨_, h1.keep e3 hne, by rw [putR_len hr, ← (h3 _ _ _ ho).some_iff]; exact e2, fun t i a ho2 => ?_⟩, e3, e4⟩
  rw [mapL_put]
  unfold updK updM
  split
  · exact ⟨m, rfl, rfl, hm⟩
  · exact h3 t i a ho2
set_option maxRecDepth 100000 in
set_option maxHeartbeats 8000000 in
theorem ldTick_g (b r N : Nat) (L : List LsaD) (hF : Hid (FineL L)) (hN : N + 20 < 1000000) (w : World) (h : Hid (DbL w b r N L)) :
    Calls Try.prog 12 #[.pointer (some ⟨b, 0, none⟩)] w fun e w' => ∃ v, e = .returned v ∧ OwnR 25 3 kV w w' v (endK L) ∧ DbL w' b r (N + L.length) (L.map tickD) ∧ Keeps (fun k => k = r) w w' := by
  obtain ⟨K, hDK⟩ := h.out
  have hfew := hF.out.few
  have hkeys := Lib.hid (ldKeys_any b r N L.length K (fun ss hs => by have := hDK.count hs; omega) (by omega) w (hDK.blk.cell 0 _ rfl) (Lib.hid hDK.map))
  have hsort := Lib.hid (fun S (hS : Sorted3 K S) => hDK.sorted hF.out.up hF.out.good hS)
  have hbr := Lib.hid hDK.ne
  obtain ⟨ik, hik, hkz, hksz, hkby⟩ := info_parts keyInfoAllK
  clear hDK
  go_enter Try.func12, Try.ntmps12
  go_wp2_with fail
  refine hkeys.out.mono ?_
  rintro e w1 ⟨kv, S, rfl, hS, hO, hk⟩
  obtain rfl := hsort.out S hS
  have hne : Hid (∀ k, kv.ownBlock = some k → ¬ k = r) := Lib.hid (fun k e => by
    obtain ⟨cur, hc⟩ := hO.tyK k e
    exact (h.out.keep hk).not_cells _ _ _ _ hc)
  have hR := hO.at kV_len
  obtain ⟨kp, kc, rfl⟩ := hO.slice
  rw [List.length_map] at *
  have hR' := Lib.hid hR
  have hk' := Lib.hid hk
  have hD1 := Lib.hid (h.out.keep hk)
  clear hkeys hsort hS hO hk hR
  go_wp2_with fail
  have hO0 : Hid (OwnR 25 3 kV w1 w1 (.slice none 0 0) ([] : List K3)) := Lib.hid (OwnR.nil _ _ (Nat.le_refl _))
  go_loopw [10, 3] (fun iv ev wr => ∃ (i : Nat) (q : Option Addr) (d : Nat), i ≤ L.length ∧ iv = .int .i64 i ∧ ev = .slice q (endK (L.take i)).length d ∧ Hid (OwnR 25 3 kV w1 wr (.slice q (endK (L.take i)).length d) (endK (L.take i))) ∧ Hid (DbO w1 wr b r (N + i) (tickTo i L)) ∧ Hid (Keeps (fun k => k = r) w1 wr)) (fun iv _ _ => L.length - (intOf iv).toNat)
  case atStart => exact ⟨0, none, 0, by omega, rfl, by simp [endK], by simpa [endK] using hO0, by rw [tickTo_zero]; exact Lib.hid hD1.out.o, Lib.hid (Keeps.refl _ _)⟩
  case round =>
    obtain ⟨i, q, d, hi, rfl, rfl, hE, hD, hK⟩ := hrel
    by_cases hil : i < L.length
    · obtain ⟨x, hx⟩ : ∃ x, L[i]? = some x := ⟨_, List.getElem?_eq_getElem hil⟩
      obtain ⟨g, o, rfl, hr⟩ := RowsAt.open hR'.out (by rw [List.length_map]; omega)
      have hxr : Hid (wr.rangeAt g (o + i * 3) [.int .i64 x.type, .int .u32 x.id, .int .u32 x.adv]) := Lib.hid (hK.out.rangeAt (hr i (kOf x) (by rw [List.getElem?_map, hx]; rfl)) (hne.out g rfl))
      have hgx := hF.out.good x (List.mem_of_getElem? hx)
      have hko := Lib.hid hgx.k
      obtain ⟨K2, hDK1, hDK2, hDK3⟩ := hD.out
      obtain ⟨m, hm1, hm2, hm3, hm4⟩ := val_lookM (hDK3 _ _ _ hgx.k)
      have hmx : mapL (tickTo i L) x.type x.id x.adv = some x := mapL_mem (hF.out.tickTo i).up (List.mem_of_getElem? (tickTo_get hx))
      rw [hmx] at hm2
      have hm2 : m.d = x := hm2
      obtain ⟨⟨age, type, id, adv, seq, links, mask, routers, cost⟩, p5, c5, p7, c7⟩ := m
      simp only at hm2
      subst hm2
      have hlook : Hid (∀ W, Keeps (fun _ => False) wr W → (Instr.lookup 84 (.map (some r)) (keyA type id adv) false).run Try.prog W = .ok (.agg #[.int .i64 age, .int .i64 type, .int .u32 id, .int .u32 adv, .int .i64 seq, .slice p5 links.length c5, .int .u32 mask, .slice p7 routers.length c7, .int .i64 cost]) W) := Lib.hid (fun W k => by
        rw [(hDK2.keep k (fun f => f)).look1 hgx.k, hm1]; rfl)
      have hm3' := Lib.hid hm3
      have hDb := Lib.hid hDK1
      have hage := hgx.age
      simp only at hage
      have m1 : (0 : Int) ≤ (i : Int) := by omega
      have m2 : (i : Int) < (L.length : Int) := by omega
      have hx' := Lib.hid hx
      have hgx' := Lib.hid hgx
      have hltr := Lib.hid hD.out.lt
      clear hDK1 hDK2 hDK3 hm1 hm3 hm4 hmx hx hgx hr
      obtain ⟨Wa, hWa⟩ : ∃ Wa, Wa = wr.alloc (.cells #[.int .i64 type, .int .u32 id, .int .u32 adv] 25) := ⟨_, rfl⟩
      have hB : Hid (BlkAt Wa wr.heap.size 25 [.int .i64 type, .int .u32 id, .int .u32 adv]) := Lib.hid (by rw [hWa]; exact BlkAt.new wr 25 [.int .i64 type, .int .u32 id, .int .u32 adv])
      have hKa : Hid (Keeps (fun _ => False) wr Wa) := Lib.hid (by rw [hWa]; exact (Keeps.refl _ _).alloc _)
      have hWa' := Lib.hid hWa
      clear hWa
      go_upto_region 5 with (first | ((with_reducible refine at_slot 13 ?_); refine wpList_load_mid rfl 25 (.tmp 12) rfl g (o + i * 3) rfl _ _ hxr.out Try.underlying25 rfl keyInfo ?_) | ((with_reducible refine at_store 5 ?_); refine wpList_store_new rfl 25 (.tmp 5) (.tmp 13) rfl _ _ rfl rfl keyInfo rfl (by simp; exact ⟨rfl, rfl, rfl⟩) ?_))
      rw [← hWa'.out]
      clear hWa'
      refine wp_region_noPanic ?_
      refine wp_region_held_drew (S := (fun W => Keeps (fun _ => False) Wa W)) (by kernel_rfl) (((Keeps.refl (fun _ => False) _).drew)) (fun hHeld => ?_)
      refine tk 0 rfl ?_
      refine tk 1 rfl ?_
      refine tk 2 rfl ?_
      refine tkL 3 rfl (yieldsIf_load_cell (by rfl) 84 (.tmp 16) rfl b 0 rfl _ (fun _ s => (hDb.out.keep (hKa.out.trans s) (fun f => f)).cell 0 (.map (some r)) rfl) (fun w s => load_ldmap w _ _ _ s)) ?_
      refine tkL 4 rfl (yieldsIf_load_mid (by rfl) 25 (.tmp 5) rfl wr.heap.size 0 rfl [.int .i64 type, .int .u32 id, .int .u32 adv] _ (fun _ s => (hB.out.keep s (fun f => f)).range) Try.underlying25 rfl keyInfo) ?_
      refine tkL 5 rfl (yieldsIf_lookup1 (by rfl) 84 (.tmp 17) (.tmp 18) rfl _ _ _ rfl rfl (fun _ s => hlook.out _ (hKa.out.trans s))) ?_
      refine stepL 6 rfl (by kernel_rfl) (fun K hK => ?_)
      go_simp
      refine hK.out _ _ ((hHeld.alloc _)) (fun hHeld => ?_)
      clear hK K
      try simp only [Act.put, sA, sZ, sS]
      refine stepL 7 rfl (by kernel_rfl) (fun K hK => ?_)
      rw [if_pos (by rfl)]
      (refine wp_store_mid 29 (.tmp 6) (.tmp 19) rfl Wa.heap.size 0 #[.int .i64 age, .int .i64 type, .int .u32 id, .int .u32 adv, .int .i64 seq, .slice p5 links.length c5, .int .u32 mask, .slice p7 routers.length c7, .int .i64 cost] rfl rfl (BlkAt.there (BlkAt.new Wa.drew 29 [.int .i64 0, .int .i64 0, .int .u32 0, .int .u32 0, .int .i64 0, .slice none 0 0, .int .u32 0, .slice none 0 0, .int .i64 0]) 0 9 (Nat.le_refl 9)) lsaInfo (lsa_one _ _ _ _ _ _ _ _ _ (slice_one _ _ _) (slice_one _ _ _)) ?_)
      refine hK.out _ _ ((hHeld.trans' (Keeps.setCells (F := fun k => k = Wa.heap.size) (.inl rfl) _ _ _ (Keeps.refl _ _)) (fun i e => .inr (by rw [e]; exact Nat.le_refl _)))) (fun hHeld => ?_)
      clear hK K
      try simp only [Act.put, sA, sZ, sS]
      refine wpAnyH_done (by kernel_rfl) (NoPanic.normal ?_) _
      have hO4 : Hid (BlkAt ((Wa.alloc (.cells #[.int .i64 0, .int .i64 0, .int .u32 0, .int .u32 0, .int .i64 0, .slice none 0 0, .int .u32 0, .slice none 0 0, .int .i64 0] 29)).drew.setCells Wa.heap.size 0 [.int .i64 age, .int .i64 type, .int .u32 id, .int .u32 adv, .int .i64 seq, .slice p5 links.length c5, .int .u32 mask, .slice p7 routers.length c7, .int .i64 cost]) Wa.heap.size 29 [.int .i64 age, .int .i64 type, .int .u32 id, .int .u32 adv, .int .i64 seq, .slice p5 links.length c5, .int .u32 mask, .slice p7 routers.length c7, .int .i64 cost]) := Lib.hid (blk_all (BlkAt.new Wa.drew 29 [.int .i64 0, .int .i64 0, .int .u32 0, .int .u32 0, .int .i64 0, .slice none 0 0, .int .u32 0, .slice none 0 0, .int .i64 0]) rfl)
      have hB4 := Lib.hid (hB.out.keep hHeld (fun f => f))
      have hK4 := Lib.hid (hKa.out.trans hHeld)
      have hgt : Hid (wr.heap.size < Wa.heap.size) := Lib.hid (lt_of_block hB.out)
      clear hHeld hB hKa hlook
      generalize hgz : (Wa.alloc (.cells #[.int .i64 0, .int .i64 0, .int .u32 0, .int .u32 0, .int .i64 0, .slice none 0 0, .int .u32 0, .slice none 0 0, .int .i64 0] 29)).drew.setCells Wa.heap.size 0 [.int .i64 age, .int .i64 type, .int .u32 id, .int .u32 adv, .int .i64 seq, .slice p5 links.length c5, .int .u32 mask, .slice p7 routers.length c7, .int .i64 cost] = W4 at hO4 hB4 hK4 ⊢
      clear hgz
      obtain ⟨bl, hbl⟩ : ∃ x, Wa.heap.size = x := ⟨_, rfl⟩
      rw [hbl] at hO4 hgt ⊢
      clear hbl
      have hE4 := Lib.hid (hE.out.keep hK4.out (fun _ _ f => f))
      have hD4 := Lib.hid (hD.out.keep hK4.out (fun f => f) (fun f => f))
      have hK4' := Lib.hid (hK.out.trans (hK4.out.mono (fun i f => f.elim)))
      have c0 := hO4.out.cell 0 _ rfl
      have f0 := hO4.out.frozen 0
      by_cases ha : age < 3600
      · have hK0 : Hid (Keeps (fun i => i = bl) W4 (W4.setCell ⟨bl, 0, none⟩ (.int .i64 (age + 1)))) := Lib.hid (Keeps.setCell (F := fun i => i = bl) (Keeps.refl _ _) (.inl rfl) _)
        have hB5 := Lib.hid (hB4.out.keep hK0.out (by have := hgt.out; omega))
        have hO5 : Hid (BlkAt (W4.setCell ⟨bl, 0, none⟩ (.int .i64 (age + 1))) bl 29 [.int .i64 (age + 1), .int .i64 type, .int .u32 id, .int .u32 adv, .int .i64 seq, .slice p5 links.length c5, .int .u32 mask, .slice p7 routers.length c7, .int .i64 cost]) := Lib.hid (hO4.out.set 0 (.int .i64 (age + 1)))
        obtain ⟨W5, hW5⟩ : ∃ W5, W5 = W4.setCell ⟨bl, 0, none⟩ (.int .i64 (age + 1)) := ⟨_, rfl⟩
        rw [← hW5] at hK0 hB5 hO5
        have hW5' := Lib.hid hW5
        have hnew : Hid (wr.heap.size ≤ bl) := Lib.hid (by have := hgt.out; omega)
        have hKw5 : Hid (Keeps (fun _ => False) wr W5) := Lib.hid (hK4.out.trans' hK0.out (fun i e => .inr (by rw [e]; exact hnew.out)))
        have hE5 := Lib.hid (hE.out.keep hKw5.out (fun _ _ f => f))
        have hm5 : Hid (LsaIn w1 ⟨⟨age + 1, type, id, adv, seq, links, mask, routers, cost⟩, p5, c5, p7, c7⟩) := Lib.hid ⟨hm3'.out.1, hm3'.out.2⟩
        have hD5 := Lib.hid (hD.out.keep hKw5.out (fun f => f) (fun f => f))
        have hK5' := Lib.hid (hK.out.trans (hKw5.out.mono (fun i f => f.elim)))
        have hDb5 := Lib.hid (hDb.out.keep hKw5.out (fun f => f))
        have hblr : Hid (¬ bl = r) := Lib.hid (by have := hnew.out; have := hltr.out.2; omega)
        have hbkr : Hid (¬ wr.heap.size = r) := Lib.hid (by have := hltr.out.2; omega)
        have ha1 : ¬ age ≥ 3600 := by omega
        have a1 : (-9223372036854775808 : Int) ≤ age + 1 := by omega
        have a2 : age + 1 ≤ 9223372036854775807 := by omega
        have htick : tickD ⟨age, type, id, adv, seq, links, mask, routers, cost⟩ = ⟨age + 1, type, id, adv, seq, links, mask, routers, cost⟩ := tickD_young ha
        have hset := Lib.hid (tickTo_set hx'.out)
        have hput := Lib.hid (putR_set (hF.out.tickTo i).up (tickTo_get hx'.out) (tickD_k _))
        rw [htick] at hset hput
        have hko2 : Hid (kOk type id adv) := hko
        clear hW5 hK0 hO4 hB4 hD4 hE4 hK4 hK4' hKw5 ha htick
        go_upto_region 8 with fail
        rw [← hW5'.out]
        clear hW5' c0 f0
        refine wp_region_noPanic ?_
        refine wp_region_held_drew (S := (fun W => Keeps (fun k => k = r) W5 W)) (by kernel_rfl) (((Keeps.refl (fun k => k = r) _).drew)) (fun hHeld => ?_)
        refine tk 0 rfl ?_
        refine tk 1 rfl ?_
        refine tk 2 rfl ?_
        refine tkL 3 rfl (yieldsIf_load_cell (by rfl) 84 (.tmp 29) rfl b 0 rfl _ (fun _ s => (hDb5.out.keep s hbr.out).cell 0 (.map (some r)) rfl) (fun w s => load_ldmap w _ _ _ s)) ?_
        refine tkL 4 rfl (yieldsIf_load_mid (by rfl) 25 (.tmp 5) rfl wr.heap.size 0 rfl [.int .i64 type, .int .u32 id, .int .u32 adv] _ (fun _ s => (hB5.out.keep s hbkr.out).range) Try.underlying25 rfl keyInfo) ?_
        refine tkL 5 rfl (yieldsIf_load_mid (by rfl) 29 (.tmp 6) rfl bl 0 rfl [.int .i64 (age + 1), .int .i64 type, .int .u32 id, .int .u32 adv, .int .i64 seq, .slice p5 links.length c5, .int .u32 mask, .slice p7 routers.length c7, .int .i64 cost] _ (fun _ s => (hO5.out.keep s hblr.out).range) Try.underlying29 rfl lsaInfo) ?_
        have hDC := hD5.out.keep ((Keeps.refl (fun _ => False) W5).drew) (fun f => f) (fun f => f)
        obtain ⟨wD, hrD, hDD, hkD, -⟩ := hDC.put (hF.out.tickTo i).up (by omega) ⟨⟨age + 1, type, id, adv, seq, links, mask, routers, cost⟩, p5, c5, p7, c7⟩ hko2.out hm5.out
        rw [hput.out, hset.out] at hDD
        refine stepL 6 rfl (by kernel_rfl) (fun K hK => ?_)
        rw [if_pos (by rfl)]
        (refine wp_mapUpdate_run 84 (.tmp 30) (.tmp 31) (.tmp 32) rfl _ _ _ rfl rfl rfl _ hrD ?_)
        refine hK.out _ _ ((hHeld.trans hkD)) (fun hHeld => ?_)
        clear hK K
        try simp only [Act.put, sA, sZ, sS]
        refine wpAnyH_done (by kernel_rfl) (NoPanic.normal ?_) _
        have hB6 := Lib.hid (hB5.out.keep hHeld hbkr.out)
        have hO6 := Lib.hid (hO5.out.keep hHeld hblr.out)
        have hE6 := Lib.hid (hE5.out.keep hHeld (fun i e f => by have := hE5.out.2.1 i e; have := hD1.out.lt.2; omega))
        have hK6 := Lib.hid (hK5'.out.trans hHeld)
        have hD6 := Lib.hid hDD
        clear hHeld hDD hkD hrD hDC hD5 hE5 hm5 hK5' hDb5 hB5 hO5 hset hput
        have c0 := hO6.out.cell 0 _ rfl
        by_cases h9 : age = 3599
        · have h91 : (age + 1 == 3600) = true := by rw [h9]; rfl
          have hen := Lib.hid (endK_snoc hx'.out)
          rw [if_pos (by unfold endsD; simpa using h9)] at hen
          have hel := endK_len i L
          have kd := (Keeps.refl (fun _ => False) wD).alloc (.cells #[.int .i64 type, .int .u32 id, .int .u32 adv] 25)
          have hAd := Lib.hid (hE6.out.keep kd (fun _ _ f => f))
          have hKd := Lib.hid (hK6.out.trans (kd.mono (fun i f => f.elim)))
          have hDd := Lib.hid (hD6.out.keep kd (fun f => f) (fun f => f))
          have hcn := Lib.hid (cells_new (w := wD) rfl (kV (type, id, adv)) 25)
          clear kd h9
          go_wp2_with (first | ((with_reducible refine at_slot 37 ?_); refine wpList_load_mid rfl 25 (.tmp 5) rfl wr.heap.size 0 rfl [.int .i64 type, .int .u32 id, .int .u32 adv] _ hB6.out.range Try.underlying25 rfl keyInfo ?_) | ((with_reducible refine at_slot 39 ?_); refine wpList_append_r rfl (.tmp 36) (.tmp 38) 39 25 rfl ik _ 16 Try.underlying39 hik hkz hksz hkby rfl (by decide) (by decide) kV_len w1 _ (endK (L.take i)).length (endK (L.take i)) rfl rfl hAd.out _ rfl (type, id, adv) hcn.out (kV_one _) (by omega) ?_; intro q8 d8 w8 hO8 hg8))
          have hD8 := Lib.hid (hDd.out.keep hg8.out.k (fun e => by have := hAd.out.2.1 _ e; have := hD1.out.lt.1; omega) (fun e => by have := hAd.out.2.1 _ e; have := hD1.out.lt.2; omega))
          have hK8 := Lib.hid (hKd.out.trans' hg8.out.k (fun i e => .inr (hAd.out.2.1 i e)))
          have hl2 : (endK (L.take i)).length + 1 = (endK (L.take (i + 1))).length := by rw [hen.out, List.length_append]; rfl
          exact ⟨⟨i + 1, q8, d8, by omega, by go_num, by rw [← hl2], by rw [← hl2, hen.out]; exact hO8, by rw [show N + (i + 1) = N + i + 1 by omega]; exact hD8, hK8⟩, by simp [intOf]; omega⟩
        · have h91 : (age + 1 == 3600) = false := by rw [beq_eq_false_iff_ne]; omega
          have hen := Lib.hid (endK_snoc hx'.out)
          rw [if_neg (by unfold endsD; simpa using h9)] at hen
          clear h9
          go_wp2_with fail
          exact ⟨⟨i + 1, q, d, by omega, by go_num, by rw [hen.out], by rw [hen.out]; exact hE6, by rw [show N + (i + 1) = N + i + 1 by omega]; exact hD6, hK6⟩, by simp [intOf]; omega⟩
      · have ha1 : age ≥ 3600 := by omega
        have hset : tickTo (i + 1) L = tickTo i L := by
          rw [← tickTo_set hx'.out, tickD_old ha]
          exact set_self (tickTo_get hx'.out)
        have hen : endK (L.take (i + 1)) = endK (L.take i) := by rw [endK_snoc hx'.out, if_neg (by unfold endsD; simp; omega)]
        have hset' := Lib.hid hset
        have hen' := Lib.hid hen
        clear hset hen ha
        go_wp2_with fail
        exact ⟨⟨i + 1, q, d, by omega, by go_num, by rw [hen'.out], by rw [hen'.out]; exact hE4, by rw [hset'.out]; exact Lib.hid (hD4.out.mono (by omega)), hK4'⟩, by simp [intOf]; omega⟩
    · obtain rfl : i = L.length := by omega
      go_wp2_with fail
      go_ret
      rw [List.take_length] at *
      exact ⟨_, rfl, hE.out.older hk'.out.size, by rw [← tickTo_all]; exact hD.out.l hK.out (fun i cur t x hc => hD1.out.not_cells i cur t x hc), (hk'.out.mono (fun i f => f.elim)).trans hK.out⟩
end Go.Proofs.Ytdaongflpllfhaa
/- What an Lsa's bytes tell of its age and number; Lsas of one Key with numbers. -/
namespace Go.Proofs.Ytdaongflpllfhaa
open Go.RowKit

theorem putB_shape (l : LsaD) : ∃ r, putB l = be 2 (lo64 l.age) ++ ([2, UInt8.ofNat (lo8 l.type)] ++ (be 4 l.id ++ (be 4 l.adv ++ (be 4 (lo64 l.seq) ++ r)))) := by
  unfold putB
  obtain ⟨a, ha⟩ : ∃ a, UInt8.ofNat (flX (zed ((baseB l).drop 2) 14) ((baseB l).length - 2) 14) = a := ⟨_, rfl⟩
  obtain ⟨b, hb⟩ : ∃ b, UInt8.ofNat (flY (zed ((baseB l).drop 2) 14) ((baseB l).length - 2) 14) = b := ⟨_, rfl⟩
  rw [ha, hb]
  have hs : baseB l = be 2 (lo64 l.age) ++ ([2, UInt8.ofNat (lo8 l.type)] ++ (be 4 l.id ++ (be 4 l.adv ++ (be 4 (lo64 l.seq) ++ (be 2 0 ++ be 2 (lo64 (20 + ((tellB l).length : Int))) ++ tellB l))))) := by
    unfold baseB headB; simp only [List.append_assoc]
  rw [hs]
  generalize be 2 0 ++ be 2 (lo64 (20 + ((tellB l).length : Int))) ++ tellB l = r
  have step : ∀ (n : Nat) (x : UInt8) (r : List UInt8), (be 2 (lo64 l.age) ++ ([2, UInt8.ofNat (lo8 l.type)] ++ (be 4 l.id ++ (be 4 l.adv ++ (be 4 (lo64 l.seq) ++ r))))).set (16 + n) x = be 2 (lo64 l.age) ++ ([2, UInt8.ofNat (lo8 l.type)] ++ (be 4 l.id ++ (be 4 l.adv ++ (be 4 (lo64 l.seq) ++ r.set n x)))) := fun n x r => by
    rw [List.set_append_right _ _ (by rw [be_len]; omega), be_len, List.set_append_right _ _ (by simp; omega), List.set_append_right _ _ (by rw [be_len]; simp; omega), be_len, List.set_append_right _ _ (by rw [be_len]; simp; omega), be_len, List.set_append_right _ _ (by rw [be_len]; simp; omega), be_len]
    congr 6
    simp
    omega
  exact ⟨(r.set 0 a).set 1 b, by rw [step 0 a r, step 1 b]⟩
theorem hA_age (l : LsaD) : hA l = lo64 l.age % 65536 := by
  obtain ⟨r, hr⟩ := putB_shape l
  unfold hA
  rw [hr, show sub (be 2 (lo64 l.age) ++ ([2, UInt8.ofNat (lo8 l.type)] ++ (be 4 l.id ++ (be 4 l.adv ++ (be 4 (lo64 l.seq) ++ r))))) 0 2 = be 2 (lo64 l.age) from by
    unfold sub; rw [List.drop_zero, List.take_append_of_le_length (by rw [be_len]; omega), List.take_of_length_le (by rw [be_len]; omega)], beVal_be]
theorem hdD_seq (l : LsaD) : (hdD l).seq = sgn32 (lo64 l.seq % 4294967296) := by
  obtain ⟨r, hr⟩ := putB_shape l
  unfold hdD headOf
  simp only
  rw [hr, show sub (be 2 (lo64 l.age) ++ ([2, UInt8.ofNat (lo8 l.type)] ++ (be 4 l.id ++ (be 4 l.adv ++ (be 4 (lo64 l.seq) ++ r))))) 12 4 = be 4 (lo64 l.seq) from by
    rfl, beVal_be]
theorem seq_back (s : Int) (h1 : -2147483648 ≤ s) (h2 : s ≤ 2147483647) : sgn32 (lo64 s % 4294967296) = s := by
  unfold sgn32 lo64
  split <;> omega
/-- the Lsa of the law -/
def mL (k : Nat) (s : Int) : LsaD := ⟨0, 1, k, 1, s, [], 0, [], 0⟩
theorem mBare (k : Nat) (s : Int) (hk : k < 4294967296) (h1 : -1000 < s) (h2 : s < 1000) : Bare (mL k s) := by
  refine ⟨rfl, rfl, ?_, hk, (by show (1 : Nat) < 4294967296; decide), (by show (0 : Nat) < 4294967296; decide)⟩
  unfold canB
  have h3 : withinB s (-2147483647) 2147483647 = true := by unfold withinB; rw [decide_eq_true_iff]; omega
  show (withinB 0 0 3600 && (withinB s (-2147483647) 2147483647 && toldB (mL k s))) = true
  rw [h3]; rfl
theorem mAge (k : Nat) (s : Int) : hA (mL k s) ≤ 3600 := by rw [hA_age]; show lo64 0 % 65536 ≤ 3600; decide
theorem mPos (k : Nat) (s t : Int) : posK [mL k t] (mL k s).type (mL k s).id (mL k s).adv = some 0 := by
  unfold posK hasKey; simp [mL]
theorem mNewer (k : Nat) (s t : Int) (h1 : -1000 < s) (h2 : s < 1000) (h3 : -1000 < t) (h4 : t < 1000) : newerD (mL k s) (mL k t) = decide (t < s) := by
  by_cases e : s = t
  · subst e
    unfold newerD
    rw [cmpH_self]; simp
  · unfold newerD cmpH
    have e1 : (hdD (mL k s)).seq = s := by rw [hdD_seq]; exact seq_back s (by omega) (by omega)
    have e2 : (hdD (mL k t)).seq = t := by rw [hdD_seq]; exact seq_back t (by omega) (by omega)
    rw [e1, e2, if_pos e]
    unfold cmpI
    by_cases h : s < t
    · rw [if_pos h, decide_eq_decide]; omega
    · rw [if_neg h, if_pos (by omega), decide_eq_decide]; omega
theorem mPut (k : Nat) (s t : Int) (h1 : -1000 < s) (h2 : s < 1000) (h3 : -1000 < t) (h4 : t < 1000) : putD [mL k t] (mL k s) = (decide (t < s), 0, [mL k (if t < s then s else t)]) := by
  unfold putD
  rw [mPos]
  simp only [List.getElem?_cons_zero, mNewer k s t h1 h2 h3 h4]
  by_cases h : t < s <;> simp [h]
theorem mFind (k : Nat) (t : Int) : findD [mL k t] 1 k 1 = (mL k t, true) := by
  unfold findD
  have := mPos k t t
  rw [show posK [mL k t] 1 k 1 = some 0 from this]; rfl
end Go.Proofs.Ytdaongflpllfhaa
/- lsdb.Put of whatever Lsa (gen_lkv.py writes this, out of Put of bare ones). -/
set_option linter.unusedVariables false
set_option linter.unusedSimpArgs false
namespace Go.Proofs.Ytdaongflpllfhaa
open Go.RowKit

theorem GoodL.hA {d : LsaD} (h : GoodL d) : hA d ≤ 3600 := by
  have h1 := h.age
  rw [hA_age]
  unfold lo64
  omega
set_option maxRecDepth 100000 in
set_option maxHeartbeats 4000000 in
theorem ldPut_can (b r N : Nat) (L : List LsaD) (hF : Hid (FineL L)) (m : LsaM) (hg : Hid (GoodL m.d)) (hN : N < 1000000) (w : World) (hI : Hid (LsaIn w m)) (h : Hid (DbL w b r N L)) :
    Calls Try.prog 9 #[.pointer (some ⟨b, 0, none⟩), .agg (lsaRow m).toArray] w fun e w' => e = .returned (.tuple #[.bool (putA L m.d).2.1, .int .i64 (putA L m.d).2.2]) ∧ DbL w' b r (N + 1) (putA L m.d).1 ∧ Keeps (fun k => k = r) w w' := by
  have hll := canB_lens hg.out.can
  obtain ⟨T, S, Ln, I, V, C, hd⟩ := hd_split m.d
  have hd' := Lib.hid hd
  have hA1 := hg.out.hA
  obtain ⟨A, hAe⟩ : ∃ A, hA m.d = A := ⟨_, rfl⟩
  have hAe' := Lib.hid hAe
  rw [hAe] at hd' hA1
  have hnr : Hid (¬ w.heap.size = r) := Lib.hid (by have := h.out.lt.2; omega)
  obtain ⟨z, q, L', hz⟩ : ∃ z q L', putA L m.d = (L', z, q) := ⟨_, _, _, rfl⟩
  rw [hz]
  have hz' := Lib.hid hz
  have hko := Lib.hid hg.out.k
  have hdb := Lib.hid h.out
  obtain ⟨⟨age, type, id, adv, seq, links, mask, routers, cost⟩, p5, c5, p7, c7⟩ := m
  simp only at hd' hI hll hAe' hz' hko
  clear hd hAe hz
  have e0 : (lsaRow ⟨⟨age, type, id, adv, seq, links, mask, routers, cost⟩, p5, c5, p7, c7⟩).toArray = #[.int .i64 age, .int .i64 type, .int .u32 id, .int .u32 adv, .int .i64 seq, .slice p5 links.length c5, .int .u32 mask, .slice p7 routers.length c7, .int .i64 cost] := rfl
  rw [e0]
  clear e0
  obtain ⟨W0, hW0⟩ : ∃ W0, W0 = w.alloc (.cells #[.int .i64 age, .int .i64 type, .int .u32 id, .int .u32 adv, .int .i64 seq, .slice p5 links.length c5, .int .u32 mask, .slice p7 routers.length c7, .int .i64 cost] 29) := ⟨_, rfl⟩
  have hB : Hid (BlkAt W0 w.heap.size 29 [.int .i64 age, .int .i64 type, .int .u32 id, .int .u32 adv, .int .i64 seq, .slice p5 links.length c5, .int .u32 mask, .slice p7 routers.length c7, .int .i64 cost]) := Lib.hid (by rw [hW0]; exact BlkAt.new w 29 [.int .i64 age, .int .i64 type, .int .u32 id, .int .u32 adv, .int .i64 seq, .slice p5 links.length c5, .int .u32 mask, .slice p7 routers.length c7, .int .i64 cost])
  have hK : Hid (Keeps (fun _ => False) w W0) := Lib.hid (by rw [hW0]; exact (Keeps.refl _ _).alloc _)
  have hD := Lib.hid (h.out.keep hK.out)
  have hI0 := Lib.hid (hI.out.keepC hK.out (fun _ _ _ _ _ f => f))
  have hW0' := Lib.hid hW0
  clear hW0 h hI
  go_enter Try.func9, Try.ntmps9
  go_upto_region 1 with fail
  rw [← hW0'.out]
  clear hW0'
  go_wp2_with ((with_reducible refine at_slot 11 ?_); refine wpList_load_mid rfl 29 (.tmp 3) rfl w.heap.size 0 rfl _ _ hB.out.range Try.underlying29 rfl lsaInfo ?_)
  refine (ldHeadOf_yes ⟨⟨age, type, id, adv, seq, links, mask, routers, cost⟩, p5, c5, p7, c7⟩ ⟨(A : Int), T, I, V, S, C, Ln⟩ _ hI0 (Lib.hid hg.out.fine) (Lib.hid hg.out.can) hd').mono ?_
  rintro e w2 ⟨rfl, k2⟩
  obtain ⟨W3, hW3⟩ : ∃ W3, W3 = w2.alloc (.cells #[.int .i64 (A : Nat), .int .i64 T, .int .u32 I, .int .u32 V, .int .i64 S, .int .u16 C, .int .i64 Ln] 82) := ⟨_, rfl⟩
  have k3 : Keeps (fun _ => False) W0 W3 := by rw [hW3]; exact k2.alloc _
  have hB3 := Lib.hid (hB.out.keep k3 (fun f => f))
  have hH3 : Hid (BlkAt W3 w2.heap.size 82 [.int .i64 (A : Nat), .int .i64 T, .int .u32 I, .int .u32 V, .int .i64 S, .int .u16 C, .int .i64 Ln]) := Lib.hid (by rw [hW3]; exact BlkAt.new w2 82 [.int .i64 (A : Nat), .int .i64 T, .int .u32 I, .int .u32 V, .int .i64 S, .int .u16 C, .int .i64 Ln])
  have hD3 := Lib.hid (hD.out.keep k3)
  have hI3 := Lib.hid (hI0.out.keepC k3 (fun _ _ _ _ _ f => f))
  obtain ⟨K, hDK⟩ := hD3.out
  obtain ⟨m0, hm1, hm2, hm3, hm4⟩ := hDK.lookM hko.out
  have hDb3 := Lib.hid hDK.blk
  have hMp3 := Lib.hid hDK.map
  have hK3 := Lib.hid (hK.out.trans k3)
  have hW3' := Lib.hid hW3
  clear k2 k3 hB hK hD hI0 hW3 hDK
  simp only
  go_upto_region 4 with ((with_reducible refine at_store 6 ?_); refine wpList_store_new rfl 82 (.tmp 6) (.tmp 13) rfl _ _ rfl rfl headInfo rfl (head_one _ _ _ _ _ _ _) ?_)
  rw [← hW3'.out]
  clear hW3'
  have hz0 := hz'.out
  clear hz'
  unfold putA at hz0
  rw [if_pos hg.out.can] at hz0
  obtain ⟨Y, hY⟩ : ∃ Y, lsaRow m0 = Y := ⟨_, rfl⟩
  have hYl : Hid (Y.length = 9) := Lib.hid (by rw [← hY]; rfl)
  have hY1 : Hid (Y.toArray.all (·.oneCell') = true) := Lib.hid (by rw [← hY]; exact lsaRow_oneK m0)
  have hY' := Lib.hid hY
  have hm3' := Lib.hid hm3
  cases hp : mapL L type id adv with
  | some o =>
    rw [hp] at hm2 hm4 hz0
    have hm2 : m0.d = o := hm2
    have hlook : Hid (∀ W, Keeps (fun _ => False) W3 W → (Instr.lookup 84 (.map (some r)) (keyA type id adv) true).run Try.prog W = .ok (.tuple #[.agg Y.toArray, .bool true]) W) := Lib.hid (fun W k => by
      rw [(hMp3.out.keep k (fun f => f)).look hko.out, hm4, hm1, hY]; rfl)
    have hgo := Lib.hid (hF.out.good o (mapL_some hp).1)
    have hAo := hgo.out.hA
    have hm2' := Lib.hid hm2
    simp only at hz0
    obtain ⟨T', S', Ln', I', V', C', hdo⟩ := hd_split o
    have hnw : newerD ⟨age, type, id, adv, seq, links, mask, routers, cost⟩ o = decide (cmpH A (hA o) S S' C C' = 1) := by unfold newerD; rw [hdo, hd'.out, hAe'.out]
    obtain ⟨A', hA'⟩ : ∃ A', hA o = A' := ⟨_, rfl⟩
    rw [hA'] at hdo hAo hnw
    obtain ⟨y, hy⟩ : ∃ y, newerD ⟨age, type, id, adv, seq, links, mask, routers, cost⟩ o = y := ⟨_, rfl⟩
    rw [hy] at hz0 hnw
    have hdo' : Hid (hdD m0.d = ⟨(A' : Int), T', I', V', S', C', Ln'⟩) := Lib.hid (by rw [hm2]; exact hdo)
    have hgo' : Hid (GoodL m0.d) := Lib.hid (by rw [hm2]; exact hgo.out)
    have hnw' := Lib.hid hnw.symm; have hp' := Lib.hid hp
    clear hdo hnw hp hA' hy hm1 hm2 hm3 hm4 hY
    refine wp_region_noPanic ?_
    refine wp_region_held_drew (S := (fun W => Keeps (fun _ => False) W3 W)) (by kernel_rfl) (((Keeps.refl (fun _ => False) _).drew)) (fun hHeld => ?_)
    refine tk 0 rfl ?_
    refine tk 1 rfl ?_
    refine tk 2 rfl ?_
    refine tkL 3 rfl (yieldsIf_load_cell (by rfl) 84 (.tmp 24) rfl b 0 rfl _ (fun _ s => (hDb3.out.keep s (fun f => f)).cell 0 (.map (some r)) rfl) (fun w s => load_ldmap w _ _ _ s)) ?_
    refine tk 4 rfl ?_
    refine tkL 5 rfl (yieldsIf_load_mid (by rfl) 25 (.tmp 26) rfl w.heap.size 1 rfl [.int .i64 type, .int .u32 id, .int .u32 adv] _ (fun _ s => range_key (hB3.out.keep s (fun f => f))) Try.underlying25 rfl keyInfo) ?_
    refine tkL 6 rfl (yieldsIf_lookup (by rfl) 84 (.tmp 25) (.tmp 27) rfl _ _ (.tuple #[.agg Y.toArray, .bool true]) rfl rfl (fun _ s => hlook.out _ s)) ?_
    refine tk 7 rfl ?_
    refine tk 8 rfl ?_
    refine tk 9 rfl ?_
    refine stepL 10 rfl (by kernel_rfl) (fun K hK => ?_)
    go_simp
    refine hK.out _ _ ((hHeld.alloc _)) (fun hHeld => ?_)
    clear hK K
    try simp only [Act.put, sA, sZ, sS]
    refine stepL 11 rfl (by kernel_rfl) (fun K hK => ?_)
    rw [if_pos (by rfl)]
    (refine wp_store_mid 29 (.tmp 8) (.tmp 29) rfl W3.heap.size 0 Y.toArray rfl rfl (by have e : Y.toArray.size = 9 := hYl.out; rw [e]; exact BlkAt.there (BlkAt.new W3.drew 29 [.int .i64 0, .int .i64 0, .int .u32 0, .int .u32 0, .int .i64 0, .slice none 0 0, .int .u32 0, .slice none 0 0, .int .i64 0]) 0 9 (Nat.le_refl 9)) (by have e : Y.toArray.size = 9 := hYl.out; rw [e]; exact lsaInfo) hY1.out ?_)
    refine hK.out _ _ ((hHeld.trans' (Keeps.setCells (F := fun k => k = W3.heap.size) (.inl rfl) _ _ _ (Keeps.refl _ _)) (fun i e => .inr (by rw [e]; exact Nat.le_refl _)))) (fun hHeld => ?_)
    clear hK K
    try simp only [Act.put, sA, sZ, sS]
    refine tk 12 rfl ?_
    refine wpAnyH_done (by kernel_rfl) (NoPanic.normal ?_) _
    have hO4 : Hid (BlkAt ((W3.alloc (.cells #[.int .i64 0, .int .i64 0, .int .u32 0, .int .u32 0, .int .i64 0, .slice none 0 0, .int .u32 0, .slice none 0 0, .int .i64 0] 29)).drew.setCells W3.heap.size 0 Y) W3.heap.size 29 Y) := Lib.hid (blk_all (BlkAt.new W3.drew 29 [.int .i64 0, .int .i64 0, .int .u32 0, .int .u32 0, .int .i64 0, .slice none 0 0, .int .u32 0, .slice none 0 0, .int .i64 0]) (by rw [hYl.out]; rfl))
    have hB4 := Lib.hid (hB3.out.keep hHeld (fun f => f))
    have hH4 := Lib.hid (hH3.out.keep hHeld (fun f => f))
    have hD4 := Lib.hid (hD3.out.keep hHeld)
    have hI4 := Lib.hid (hI3.out.keepC hHeld (fun _ _ _ _ _ f => f))
    have hm4' := Lib.hid (hm3'.out.keepC hHeld (fun _ _ _ _ _ f => f))
    have hK4 := Lib.hid (hK3.out.trans hHeld)
    clear hHeld hB3 hH3 hD3 hK3 hI3 hDb3 hMp3 hm3'
    simp only [List.toList_toArray] at hB4 hH4 hD4 hI4 hm4' hK4 ⊢
    generalize hgz : (W3.alloc (.cells #[.int .i64 0, .int .i64 0, .int .u32 0, .int .u32 0, .int .i64 0, .slice none 0 0, .int .u32 0, .slice none 0 0, .int .i64 0] 29)).drew.setCells W3.heap.size 0 Y = W4 at hO4 hB4 hH4 hD4 hI4 hm4' hK4 ⊢
    clear hgz
    go_wp2_with (first | ((with_reducible refine at_slot 33 ?_); refine wpList_load_mid_gd (by rfl) 82 (.tmp 6) rfl w2.heap.size 0 rfl [.int .i64 (A : Nat), .int .i64 T, .int .u32 I, .int .u32 V, .int .i64 S, .int .u16 C, .int .i64 Ln] _ hH4.out.range Try.underlying82 rfl headInfo ?_) | ((with_reducible refine at_slot 34 ?_); refine wpList_load_mid_gd (by rfl) 29 (.tmp 8) rfl W3.heap.size 0 rfl Y _ hO4.out.range Try.underlying29 rfl (by rw [hYl.out]; exact lsaInfo) ?_))
    rw [← hY'.out]
    refine (ldIsNewer_g A A' I V C I' V' C' T S Ln T' S' Ln' m0 hgo' hdo' hA1 hAo y _ hm4' hnw').mono ?_
    rintro e w5 ⟨rfl, k5⟩
    have hD5 := Lib.hid (hD4.out.keep k5)
    have hI5 := Lib.hid (hI4.out.keepC k5 (fun _ _ _ _ _ f => f))
    have hB5 := Lib.hid (hB4.out.keep k5 (fun f => f))
    have hK5 := Lib.hid (hK4.out.trans k5)
    clear k5 hD4 hB4 hH4 hO4 hK4 hI4 hm4'
    cases y with
    | false =>
      have hz1 : (L, false, (0 : Int)) = (L', z, q) := hz0
      simp only [Prod.mk.injEq] at hz1
      obtain ⟨rfl, rfl, rfl⟩ := hz1
      clear hz0
      go_wp2_with fail
      go_ret2
      exact ⟨rfl, hD5.out.mono (by omega), hK5.out.mono (fun i f => f.elim)⟩
    | true =>
      have hz1 : (putR ⟨age, type, id, adv, seq, links, mask, routers, cost⟩ L, true, (0 : Int)) = (L', z, q) := hz0
      simp only [Prod.mk.injEq] at hz1
      obtain ⟨rfl, rfl, rfl⟩ := hz1
      clear hz0
      obtain ⟨K5, hDK5⟩ := hD5.out
      have hDb5 := Lib.hid hDK5.blk
      have hne := Lib.hid hDK5.ne
      clear hDK5
      have hc := hDb5.out.cell 0 (.map (some r)) rfl
      have he := eql_mapnil r w5
      go_upto_region 11 with fail
      clear hc he
      refine wp_region_noPanic ?_
      refine wp_region_held_drew (S := (fun X => Keeps (fun k => k = r) w5 X)) (by kernel_rfl) (((Keeps.refl (fun k => k = r) _).drew)) (fun hHeld => ?_)
      refine tk 0 rfl ?_
      refine tk 1 rfl ?_
      refine tk 2 rfl ?_
      refine tkL 3 rfl (yieldsIf_load_cell (by rfl) 84 (.tmp 59) rfl b 0 rfl _ (fun _ s => (hDb5.out.keep s hne.out).cell 0 (.map (some r)) rfl) (fun w s => load_ldmap w _ _ _ s)) ?_
      refine tk 4 rfl ?_
      refine tkL 5 rfl (yieldsIf_load_mid (by rfl) 25 (.tmp 61) rfl w.heap.size 1 rfl [.int .i64 type, .int .u32 id, .int .u32 adv] _ (fun _ s => range_key (hB5.out.keep s hnr.out)) Try.underlying25 rfl keyInfo) ?_
      refine tkL 6 rfl (yieldsIf_load_mid (by rfl) 29 (.tmp 3) rfl w.heap.size 0 rfl [.int .i64 age, .int .i64 type, .int .u32 id, .int .u32 adv, .int .i64 seq, .slice p5 links.length c5, .int .u32 mask, .slice p7 routers.length c7, .int .i64 cost] _ (fun _ s => (hB5.out.keep s hnr.out).range) Try.underlying29 rfl lsaInfo) ?_
      have hI6 := hI5.out.keepC ((Keeps.refl (fun _ => False) w5).drew) (fun _ _ _ _ _ f => f)
      refine stepL 7 rfl (by kernel_rfl) (fun K hK => ?_)
      go_simp
      (refine (ldClone_any ⟨⟨age, type, id, adv, seq, links, mask, routers, cost⟩, p5, c5, p7, c7⟩ _ (Lib.hid hI6.1) (Lib.hid hI6.2) (by have := hll; simp only; omega) (by have := hll; simp only; omega)).mono ?_; rintro e wC ⟨⟨dC, q5, d5, q7, d7⟩, rfl, hdC, hIC, -, kC⟩; have hdC : dC = ⟨age, type, id, adv, seq, links, mask, routers, cost⟩ := hdC; subst hdC)
      go_wp2_with fail
      refine hK.out _ _ ((hHeld.trans (kC.mono (fun i f => f.elim)))) (fun hHeld => ?_)
      clear hK K
      try simp only [Act.put, sA, sZ, sS]
      have hDC := (hD5.out.keep ((Keeps.refl (fun _ => False) w5).drew)).keep kC
      obtain ⟨wD, hrD, hDD, hkD, -⟩ := hDC.put hF.out.up hN ⟨⟨age, type, id, adv, seq, links, mask, routers, cost⟩, q5, d5, q7, d7⟩ hko.out hIC
      refine stepL 8 rfl (by kernel_rfl) (fun K hK => ?_)
      rw [if_pos (by rfl)]
      (refine wp_mapUpdate_run 84 (.tmp 60) (.tmp 62) (.tmp 64) rfl _ _ _ rfl rfl rfl _ hrD ?_)
      refine hK.out _ _ ((hHeld.trans hkD)) (fun hHeld => ?_)
      clear hK K
      try simp only [Act.put, sA, sZ, sS]
      refine wpAnyH_done (by kernel_rfl) (NoPanic.normal ?_) _
      have hD5 := Lib.hid hDD
      have hK5 := Lib.hid (hK5.out.mono (fun i f => f.elim) |>.trans hHeld)
      clear hHeld hDD hkD hrD kC
      go_wp2_with fail
      go_ret2
      exact ⟨rfl, hD5.out, hK5.out⟩
  | none =>
    rw [hp] at hm2 hm4 hz0
    have hlook : Hid (∀ W, Keeps (fun _ => False) W3 W → (Instr.lookup 84 (.map (some r)) (keyA type id adv) true).run Try.prog W = .ok (.tuple #[.agg Y.toArray, .bool false]) W) := Lib.hid (fun W k => by
      rw [(hMp3.out.keep k (fun f => f)).look hko.out, hm4, hm1, hY]; rfl)
    have hp' := Lib.hid hp
    clear hp hm1 hm2 hm3 hm4 hY
    refine wp_region_noPanic ?_
    refine wp_region_held_drew (S := (fun W => Keeps (fun _ => False) W3 W)) (by kernel_rfl) (((Keeps.refl (fun _ => False) _).drew)) (fun hHeld => ?_)
    refine tk 0 rfl ?_
    refine tk 1 rfl ?_
    refine tk 2 rfl ?_
    refine tkL 3 rfl (yieldsIf_load_cell (by rfl) 84 (.tmp 24) rfl b 0 rfl _ (fun _ s => (hDb3.out.keep s (fun f => f)).cell 0 (.map (some r)) rfl) (fun w s => load_ldmap w _ _ _ s)) ?_
    refine tk 4 rfl ?_
    refine tkL 5 rfl (yieldsIf_load_mid (by rfl) 25 (.tmp 26) rfl w.heap.size 1 rfl [.int .i64 type, .int .u32 id, .int .u32 adv] _ (fun _ s => range_key (hB3.out.keep s (fun f => f))) Try.underlying25 rfl keyInfo) ?_
    refine tkL 6 rfl (yieldsIf_lookup (by rfl) 84 (.tmp 25) (.tmp 27) rfl _ _ (.tuple #[.agg Y.toArray, .bool false]) rfl rfl (fun _ s => hlook.out _ s)) ?_
    refine tk 7 rfl ?_
    refine tk 8 rfl ?_
    refine tk 9 rfl ?_
    refine stepL 10 rfl (by kernel_rfl) (fun K hK => ?_)
    go_simp
    refine hK.out _ _ ((hHeld.alloc _)) (fun hHeld => ?_)
    clear hK K
    try simp only [Act.put, sA, sZ, sS]
    refine stepL 11 rfl (by kernel_rfl) (fun K hK => ?_)
    rw [if_pos (by rfl)]
    (refine wp_store_mid 29 (.tmp 8) (.tmp 29) rfl W3.heap.size 0 Y.toArray rfl rfl (by have e : Y.toArray.size = 9 := hYl.out; rw [e]; exact BlkAt.there (BlkAt.new W3.drew 29 [.int .i64 0, .int .i64 0, .int .u32 0, .int .u32 0, .int .i64 0, .slice none 0 0, .int .u32 0, .slice none 0 0, .int .i64 0]) 0 9 (Nat.le_refl 9)) (by have e : Y.toArray.size = 9 := hYl.out; rw [e]; exact lsaInfo) hY1.out ?_)
    refine hK.out _ _ ((hHeld.trans' (Keeps.setCells (F := fun k => k = W3.heap.size) (.inl rfl) _ _ _ (Keeps.refl _ _)) (fun i e => .inr (by rw [e]; exact Nat.le_refl _)))) (fun hHeld => ?_)
    clear hK K
    try simp only [Act.put, sA, sZ, sS]
    refine tk 12 rfl ?_
    refine wpAnyH_done (by kernel_rfl) (NoPanic.normal ?_) _
    have hB4 := Lib.hid (hB3.out.keep hHeld (fun f => f))
    have hD4 := Lib.hid (hD3.out.keep hHeld)
    have hI4 := Lib.hid (hI3.out.keepC hHeld (fun _ _ _ _ _ f => f))
    have hK4 := Lib.hid (hK3.out.trans hHeld)
    clear hHeld hB3 hH3 hD3 hK3 hI3 hDb3 hMp3 hm3'
    simp only [List.toList_toArray] at hB4 hD4 hI4 hK4 ⊢
    generalize hgz : (W3.alloc (.cells #[.int .i64 0, .int .i64 0, .int .u32 0, .int .u32 0, .int .i64 0, .slice none 0 0, .int .u32 0, .slice none 0 0, .int .i64 0] 29)).drew.setCells W3.heap.size 0 Y = w5 at hB4 hD4 hI4 hK4 ⊢
    clear hgz
    obtain ⟨K5, hDK5⟩ := hD4.out
    have hDb5 := Lib.hid hDK5.blk
    have hne := Lib.hid hDK5.ne
    have hln5 := fun ty => hDK5.map.len ty
    clear hDK5
    have hD5 := hD4
    have hB5 := hB4
    have hI5 := hI4
    have hK5 := hK4
    clear hD4 hB4 hI4 hK4
    have hc5 := hDb5.out.cell 0 (.map (some r)) rfl
    simp only at hz0
    obtain ⟨n, hn⟩ : ∃ n, L.length = n := ⟨_, rfl⟩
    rw [hn] at hz0 hln5
    clear hn
    by_cases h20 : 20 ≤ n
    · rw [if_pos h20] at hz0
      simp only [Prod.mk.injEq] at hz0
      obtain ⟨rfl, rfl, rfl⟩ := hz0
      have h20i : (n : Int) ≥ 20 := by omega
      clear h20
      go_wp2_with fail
      go_ret2
      exact ⟨rfl, hD5.out.mono (by omega), hK5.out.mono (fun i f => f.elim)⟩
    · rw [if_neg h20] at hz0
      simp only [Prod.mk.injEq] at hz0
      obtain ⟨rfl, rfl, rfl⟩ := hz0
      have h20i : ¬ (n : Int) ≥ 20 := by omega
      have he := eql_mapnil r w5
      clear h20
      go_upto_region 11 with fail
      clear hc5 he hln5 h20i
      refine wp_region_noPanic ?_
      refine wp_region_held_drew (S := (fun X => Keeps (fun k => k = r) w5 X)) (by kernel_rfl) (((Keeps.refl (fun k => k = r) _).drew)) (fun hHeld => ?_)
      refine tk 0 rfl ?_
      refine tk 1 rfl ?_
      refine tk 2 rfl ?_
      refine tkL 3 rfl (yieldsIf_load_cell (by rfl) 84 (.tmp 59) rfl b 0 rfl _ (fun _ s => (hDb5.out.keep s hne.out).cell 0 (.map (some r)) rfl) (fun w s => load_ldmap w _ _ _ s)) ?_
      refine tk 4 rfl ?_
      refine tkL 5 rfl (yieldsIf_load_mid (by rfl) 25 (.tmp 61) rfl w.heap.size 1 rfl [.int .i64 type, .int .u32 id, .int .u32 adv] _ (fun _ s => range_key (hB5.out.keep s hnr.out)) Try.underlying25 rfl keyInfo) ?_
      refine tkL 6 rfl (yieldsIf_load_mid (by rfl) 29 (.tmp 3) rfl w.heap.size 0 rfl [.int .i64 age, .int .i64 type, .int .u32 id, .int .u32 adv, .int .i64 seq, .slice p5 links.length c5, .int .u32 mask, .slice p7 routers.length c7, .int .i64 cost] _ (fun _ s => (hB5.out.keep s hnr.out).range) Try.underlying29 rfl lsaInfo) ?_
      have hI6 := hI5.out.keepC ((Keeps.refl (fun _ => False) w5).drew) (fun _ _ _ _ _ f => f)
      refine stepL 7 rfl (by kernel_rfl) (fun K hK => ?_)
      go_simp
      (refine (ldClone_any ⟨⟨age, type, id, adv, seq, links, mask, routers, cost⟩, p5, c5, p7, c7⟩ _ (Lib.hid hI6.1) (Lib.hid hI6.2) (by have := hll; simp only; omega) (by have := hll; simp only; omega)).mono ?_; rintro e wC ⟨⟨dC, q5, d5, q7, d7⟩, rfl, hdC, hIC, -, kC⟩; have hdC : dC = ⟨age, type, id, adv, seq, links, mask, routers, cost⟩ := hdC; subst hdC)
      go_wp2_with fail
      refine hK.out _ _ ((hHeld.trans (kC.mono (fun i f => f.elim)))) (fun hHeld => ?_)
      clear hK K
      try simp only [Act.put, sA, sZ, sS]
      have hDC := (hD5.out.keep ((Keeps.refl (fun _ => False) w5).drew)).keep kC
      obtain ⟨wD, hrD, hDD, hkD, -⟩ := hDC.put hF.out.up hN ⟨⟨age, type, id, adv, seq, links, mask, routers, cost⟩, q5, d5, q7, d7⟩ hko.out hIC
      refine stepL 8 rfl (by kernel_rfl) (fun K hK => ?_)
      rw [if_pos (by rfl)]
      (refine wp_mapUpdate_run 84 (.tmp 60) (.tmp 62) (.tmp 64) rfl _ _ _ rfl rfl rfl _ hrD ?_)
      refine hK.out _ _ ((hHeld.trans hkD)) (fun hHeld => ?_)
      clear hK K
      try simp only [Act.put, sA, sZ, sS]
      refine wpAnyH_done (by kernel_rfl) (NoPanic.normal ?_) _
      have hD5 := Lib.hid hDD
      have hK5 := Lib.hid (hK5.out.mono (fun i f => f.elim) |>.trans hHeld)
      clear hHeld hDD hkD hrD kC
      go_wp2_with fail
      go_ret2
      exact ⟨rfl, hD5.out, hK5.out⟩
end Go.Proofs.Ytdaongflpllfhaa
