/- lsdb.Put of bare Lsas, walked (gen_ldd.py writes this). -/
import Derived.Test.YtdaongflpllfhaaLS11
import Derived.Test.YtdaongflpllfhaaLS10
import Derived.Sort.Grow
import Derived.Shelf.SlSortCmp.WholeK
import Derived.Sort.Statements
set_option linter.unusedVariables false
set_option linter.unusedSimpArgs false
namespace Go.Proofs.Ytdaongflpllfhaa
open Go.RowKit

theorem load_ldmap (w : World) (b o : Nat) (v : Value) (h : w.cell? ⟨b, o, none⟩ = some v) : (loadVar 84 ⟨b, o, none⟩).run Try.prog w = .ok v w := by simp [go_sem, h]
theorem yieldsIf_lookup {P : Program} {ops : Array Oper} {S : World → Prop} {op : Oper} {a : Act} (hw : Region.wanted op (yielded ops a.tmps) = true) (ty : TypeId) (x k : Operand) (ho : op.op = .lookup ty x k true) (xv kv v : Value) (hx : a.eval x = xv) (hk : a.eval k = kv)
    (hS : ∀ w, S w → (Instr.lookup ty xv kv true).run P w = .ok v w) : YieldsIf P ops S op v a :=
  .inl ⟨hw, fun w hw' => by
    unfold execOp
    simp only [ho, hx, hk, Sem.run_bind, hS w hw', Result.andThen_ok]; rfl⟩
theorem wp_mapUpdate_run {P : Program} {w : World} {o : Oper} {a : Act} {K : Act → World → Prop} {Q : Exit → Act → World → Prop} (ty : TypeId) (m k x : Operand) (ho : o.op = .mapUpdate ty m k x) (mv kv xv : Value) (hm : a.eval m = mv) (hk : a.eval k = kv) (hx : a.eval x = xv)
    (w' : World) (hr : (Instr.mapUpdate ty mv kv xv).run P w = .ok () w') (h : K (a.put o.dst undef) w') : Oper.wp P o a w K Q := by
  unfold Oper.wp execOp
  simp only [ho, hm, hk, hx, Sem.run_bind, hr, Result.andThen_ok]
  exact h
theorem range_key {w : World} {g : Nat} {t : TypeId} {a b c d e f h i j : Value} (hb : BlkAt w g t [a, b, c, d, e, f, h, i, j]) : w.rangeAt g 1 [b, c, d] := fun n u hu => by
  have := hb.range (1 + n) u (by rw [Nat.add_comm]; have hn : n < 3 := (List.getElem?_eq_some_iff.1 hu).1; rcases n with _ | _ | _ | n; exact hu; exact hu; exact hu; omega)
  rw [Nat.zero_add] at this; exact this
theorem EntriesAt.set {R : Value → LsaD → Prop} : ∀ {es : List MapEntry} {L : List LsaD} (_ : EntriesAt R es L) (j : Nat) (f : MapEntry → MapEntry) (m : LsaD) (_ : ∀ e, (f e).key = keyA m.type m.id m.adv ∧ R (f e).val m), EntriesAt R (es.modify j f) (L.set j m)
  | [], [], h, j, f, m, hf => by simp [EntriesAt]
  | e :: es, o :: L, h, 0, f, m, hf => ⟨(hf e).1, (hf e).2, h.2.2⟩
  | e :: es, o :: L, h, j + 1, f, m, hf => ⟨h.1, h.2.1, EntriesAt.set h.2.2 j f m hf⟩
  | [], _ :: _, h, _, _, _, _ => h.elim
  | _ :: _, [], h, _, _, _, _ => h.elim
theorem EntriesAt.push {R : Value → LsaD → Prop} : ∀ {es : List MapEntry} {L : List LsaD} (_ : EntriesAt R es L) (e : MapEntry) (m : LsaD) (_ : e.key = keyA m.type m.id m.adv ∧ R e.val m), EntriesAt R (es ++ [e]) (L ++ [m])
  | [], [], _, e, m, hf => ⟨hf.1, hf.2, trivial⟩
  | _ :: _, _ :: _, h, e, m, hf => ⟨h.1, h.2.1, EntriesAt.push h.2.2 e m hf⟩
  | [], _ :: _, h, _, _, _ => h.elim
  | _ :: _, [], h, _, _, _ => h.elim
def lookV (L : List LsaD) (t : Int) (i a : Nat) : Value := match (posK L t i a).bind fun j => L[j]? with | some o => .tuple #[bareV o, .bool true] | none => .tuple #[zeroLsa, .bool false]
theorem DbAt.lookup {w : World} {b r : Nat} {L : List LsaD} (h : DbAt w b r L) (t : Int) (i a : Nat) : (Instr.lookup 84 (.map (some r)) (keyA t i a) true).run Try.prog w = .ok (lookV L t i a) w := by
  unfold lookV
  obtain ⟨-, es, clock, h2, h3⟩ := h
  rw [run_lookup_key r es clock L h2 h3]
  cases hp : posK L t i a with
  | none => rfl
  | some j =>
    obtain ⟨o, ho, -⟩ := posK_lt hp
    obtain ⟨e, he, -, hv⟩ := h3.get ho
    have he2 : es[j]? = some e := by simpa using he
    simp only [Option.bind_some, he2, ho]
    rw [show e.val = bareV o from hv]
theorem DbAt.store_there {w : World} {b r : Nat} {L : List LsaD} (h : DbAt w b r L) (m : LsaD) (j : Nat) (hj : posK L m.type m.id m.adv = some j) :
    ∃ w', (Instr.mapUpdate 84 (.map (some r)) (keyA m.type m.id m.adv) (bareV m)).run Try.prog w = .ok () w' ∧ DbAt w' b r (L.set j m) ∧ Keeps (fun k => k = r) w w' := by
  have hne := h.ne
  obtain ⟨h1, es, clock, h2, h3⟩ := h
  refine ⟨_, run_mapUpdate_there r es clock L h2 h3 _ _ _ _ j hj, ⟨h1.keep (mapPut_keeps _ _ _) hne, _, _, mapPut_at _ _ _ (lt_of_block h2), ?_⟩, mapPut_keeps _ _ _⟩
  rw [Array.toList_modify]
  exact h3.set j _ m (fun e => ⟨rfl, rfl⟩)
theorem DbAt.store_new {w : World} {b r : Nat} {L : List LsaD} (h : DbAt w b r L) (m : LsaD) (hj : posK L m.type m.id m.adv = none) :
    ∃ w', (Instr.mapUpdate 84 (.map (some r)) (keyA m.type m.id m.adv) (bareV m)).run Try.prog w = .ok () w' ∧ DbAt w' b r (L ++ [m]) ∧ Keeps (fun k => k = r) w w' := by
  have hne := h.ne
  obtain ⟨h1, es, clock, h2, h3⟩ := h
  refine ⟨_, run_mapUpdate_new r es clock L h2 h3 _ _ _ _ hj, ⟨h1.keep (mapPut_keeps _ _ _) hne, _, _, mapPut_at _ _ _ (lt_of_block h2), ?_⟩, mapPut_keeps _ _ _⟩
  rw [Array.toList_push]
  exact h3.push _ m ⟨rfl, rfl⟩
theorem eql_mapnil (r : Nat) (w : World) : (binOp .eql 84 (.map (some r)) (.map none)).run Try.prog w = .ok (.bool false) w := by
  simp only [binOp, Op.equal, Op.maxDepth]
  rw [show (10000 : Nat) = 9999 + 1 from rfl, Op.equalIn]
  simp [run_underlying Try.underlying84]
/-- what Put makes of a Db -/
def hA (m : LsaD) : Nat := beVal (sub (putB m) 0 2)
def newerD (m o : LsaD) : Bool := decide (cmpH (hA m) (hA o) (hdD m).seq (hdD o).seq (hdD m).sum (hdD o).sum = 1)
def putD (L : List LsaD) (m : LsaD) : Bool × Int × List LsaD := match posK L m.type m.id m.adv with
  | some j => match L[j]? with
    | some o => if newerD m o then (true, 0, L.set j m) else (false, 0, L)
    | none => (false, 0, L)
  | none => if 20 ≤ L.length then (false, 5, L) else (true, 0, L ++ [m])
theorem hd_split (m : LsaD) : ∃ (T S Ln : Int) (I V C : Nat), hdD m = ⟨(hA m : Int), T, I, V, S, C, Ln⟩ := ⟨_, _, _, _, _, _, rfl⟩
set_option maxRecDepth 100000 in
set_option maxHeartbeats 2000000 in
theorem ldPut_bare (b r : Nat) (L L' : List LsaD) (m : LsaD) (hb : Bare m) (hL : ∀ o ∈ L, Bare o ∧ hA o ≤ 3600) (hA1 : hA m ≤ 3600) (z : Bool) (q : Int) (w : World) (h : Hid (DbAt w b r L)) (hz : Hid (putD L m = (z, q, L'))) :
    Calls Try.prog 9 #[.pointer (some ⟨b, 0, none⟩), bareV m] w fun e w' => e = .returned (.tuple #[.bool z, .int .i64 q]) ∧ DbAt w' b r L' ∧ Keeps (fun k => k = r) w w' := by
  obtain ⟨T, S, Ln, I, V, C, hd⟩ := hd_split m
  have hd' := Lib.hid hd
  obtain ⟨A, hAe⟩ : ∃ A, hA m = A := ⟨_, rfl⟩
  have hAe' := Lib.hid hAe
  rw [hAe] at hd' hA1
  have hnr : Hid (¬ w.heap.size = r) := Lib.hid (by have := h.out.lt.2; omega)
  have hL' := Lib.hid hL
  clear hL hd hAe
  obtain ⟨W0, hW0⟩ : ∃ W0, W0 = w.alloc (.cells #[.int .i64 m.age, .int .i64 m.type, .int .u32 m.id, .int .u32 m.adv, .int .i64 m.seq, .slice none 0 0, .int .u32 m.mask, .slice none 0 0, .int .i64 m.cost] 29) := ⟨_, rfl⟩
  have hB : Hid (BlkAt W0 w.heap.size 29 [.int .i64 m.age, .int .i64 m.type, .int .u32 m.id, .int .u32 m.adv, .int .i64 m.seq, .slice none 0 0, .int .u32 m.mask, .slice none 0 0, .int .i64 m.cost]) := Lib.hid (by rw [hW0]; exact BlkAt.new w 29 (bareL m))
  have hK : Hid (Keeps (fun _ => False) w W0) := Lib.hid (by rw [hW0]; exact (Keeps.refl _ _).alloc _)
  have hD := Lib.hid (h.out.keep hK.out id id)
  have hW0' := Lib.hid hW0
  clear hW0 h
  unfold bareV
  go_enter Try.func9, Try.ntmps9
  go_upto_region 1 with fail
  rw [← hW0'.out]
  clear hW0'
  go_wp2_with ((with_reducible refine at_slot 11 ?_); refine wpList_load_mid rfl 29 (.tmp 3) rfl w.heap.size 0 rfl _ _ hB.out.range Try.underlying29 rfl lsaInfo ?_)
  refine (ldHeadOf_bare m hb ⟨(A : Int), T, I, V, S, C, Ln⟩ hd' _).mono ?_
  rintro e w2 ⟨rfl, k2⟩
  obtain ⟨W3, hW3⟩ : ∃ W3, W3 = w2.alloc (.cells #[.int .i64 (A : Nat), .int .i64 T, .int .u32 I, .int .u32 V, .int .i64 S, .int .u16 C, .int .i64 Ln] 82) := ⟨_, rfl⟩
  have k3 : Keeps (fun _ => False) W0 W3 := by rw [hW3]; exact k2.alloc _
  have hB3 := Lib.hid (hB.out.keep k3 id)
  have hH3 : Hid (BlkAt W3 w2.heap.size 82 [.int .i64 (A : Nat), .int .i64 T, .int .u32 I, .int .u32 V, .int .i64 S, .int .u16 C, .int .i64 Ln]) := Lib.hid (by rw [hW3]; exact BlkAt.new w2 82 [.int .i64 (A : Nat), .int .i64 T, .int .u32 I, .int .u32 V, .int .i64 S, .int .u16 C, .int .i64 Ln])
  have hD3 := Lib.hid (hD.out.keep k3 id id)
  have hK3 := Lib.hid (hK.out.trans k3)
  have hW3' := Lib.hid hW3
  clear k2 k3 hB hK hD hW3
  simp only
  go_upto_region 4 with ((with_reducible refine at_store 6 ?_); refine wpList_store_new rfl 82 (.tmp 6) (.tmp 13) rfl _ _ rfl rfl headInfo rfl (head_one _ _ _ _ _ _ _) ?_)
  rw [← hW3'.out]
  clear hW3'
  have hz0 := hz.out
  clear hz
  unfold putD at hz0
  cases hp : posK L m.type m.id m.adv with
  | some j =>
    rw [hp] at hz0
    obtain ⟨o, ho, -⟩ := posK_lt hp
    simp only [ho] at hz0
    have hlook : Hid (lookV L m.type m.id m.adv = .tuple #[bareV o, .bool true]) := Lib.hid (by unfold lookV; rw [hp]; simp only [Option.bind_some, ho])
    have hbo := (hL'.out o (List.mem_of_getElem? ho)).1
    have hAo := (hL'.out o (List.mem_of_getElem? ho)).2
    obtain ⟨T', S', Ln', I', V', C', hdo⟩ := hd_split o
    have hnw : newerD m o = decide (cmpH A (hA o) S S' C C' = 1) := by unfold newerD; rw [hdo, hd'.out, hAe'.out]
    obtain ⟨A', hA'⟩ : ∃ A', hA o = A' := ⟨_, rfl⟩
    rw [hA'] at hdo hAo hnw
    obtain ⟨y, hy⟩ : ∃ y, newerD m o = y := ⟨_, rfl⟩
    rw [hy] at hz0 hnw
    have hdo' := Lib.hid hdo; have hnw' := Lib.hid hnw.symm; have hp' := Lib.hid hp
    clear hdo hnw hp ho hA' hy
    refine wp_region_noPanic ?_
    refine wp_region_held_drew (S := (fun W => Keeps (fun _ => False) W3 W)) (by kernel_rfl) (((Keeps.refl (fun _ => False) _).drew)) (fun hHeld => ?_)
    refine tk 0 rfl ?_
    refine tk 1 rfl ?_
    refine tk 2 rfl ?_
    refine tkL 3 rfl (yieldsIf_load_cell (by rfl) 84 (.tmp 24) rfl b 0 rfl _ (fun _ s => (hD3.out.keep s id id).bl.cell 0 (.map (some r)) rfl) (fun w s => load_ldmap w _ _ _ s)) ?_
    refine tk 4 rfl ?_
    refine tkL 5 rfl (yieldsIf_load_mid (by rfl) 25 (.tmp 26) rfl w.heap.size 1 rfl [.int .i64 m.type, .int .u32 m.id, .int .u32 m.adv] _ (fun _ s => range_key (hB3.out.keep s id)) Try.underlying25 rfl keyInfo) ?_
    refine tkL 6 rfl (yieldsIf_lookup (by rfl) 84 (.tmp 25) (.tmp 27) rfl _ _ (.tuple #[.agg #[.int .i64 o.age, .int .i64 o.type, .int .u32 o.id, .int .u32 o.adv, .int .i64 o.seq, .slice none 0 0, .int .u32 o.mask, .slice none 0 0, .int .i64 o.cost], .bool true]) rfl rfl (fun _ s => by have := (hD3.out.keep s id id).lookup m.type m.id m.adv; rw [hlook.out] at this; exact this)) ?_
    refine tk 7 rfl ?_
    refine tk 8 rfl ?_
    refine tk 9 rfl ?_
    refine stepL 10 rfl (by kernel_rfl) (fun K hK => ?_)
    go_simp
    refine hK.out _ _ ((hHeld.alloc _)) (fun hHeld => ?_)
    clear hK K
    try simp only [Act.put, sA, sZ, sS]
    refine stepL 11 rfl (by kernel_rfl) (fun K hK => ?_)
    rw [if_pos (by rfl)]
    (refine wp_store_mid 29 (.tmp 8) (.tmp 29) rfl W3.heap.size 0 #[.int .i64 o.age, .int .i64 o.type, .int .u32 o.id, .int .u32 o.adv, .int .i64 o.seq, .slice none 0 0, .int .u32 o.mask, .slice none 0 0, .int .i64 o.cost] rfl rfl (BlkAt.there (BlkAt.new W3.drew 29 [.int .i64 0, .int .i64 0, .int .u32 0, .int .u32 0, .int .i64 0, .slice none 0 0, .int .u32 0, .slice none 0 0, .int .i64 0]) 0 9 (Nat.le_refl 9)) lsaInfo (lsa_one _ _ _ _ _ _ _ _ _ (slice_one _ _ _) (slice_one _ _ _)) ?_)
    refine hK.out _ _ ((hHeld.trans' (Keeps.setCells (F := fun k => k = W3.heap.size) (.inl rfl) _ _ _ (Keeps.refl _ _)) (fun i e => .inr (by rw [e]; exact Nat.le_refl _)))) (fun hHeld => ?_)
    clear hK K
    try simp only [Act.put, sA, sZ, sS]
    refine tk 12 rfl ?_
    refine wpAnyH_done (by kernel_rfl) (NoPanic.normal ?_) _
    have hO4 : Hid (BlkAt ((W3.drew.alloc (.cells #[.int .i64 0, .int .i64 0, .int .u32 0, .int .u32 0, .int .i64 0, .slice none 0 0, .int .u32 0, .slice none 0 0, .int .i64 0] 29)).setCells W3.heap.size 0 [.int .i64 o.age, .int .i64 o.type, .int .u32 o.id, .int .u32 o.adv, .int .i64 o.seq, .slice none 0 0, .int .u32 o.mask, .slice none 0 0, .int .i64 o.cost]) W3.heap.size 29 [.int .i64 o.age, .int .i64 o.type, .int .u32 o.id, .int .u32 o.adv, .int .i64 o.seq, .slice none 0 0, .int .u32 o.mask, .slice none 0 0, .int .i64 o.cost]) := Lib.hid ((((((((((BlkAt.new W3.drew 29 [.int .i64 0, .int .i64 0, .int .u32 0, .int .u32 0, .int .i64 0, .slice none 0 0, .int .u32 0, .slice none 0 0, .int .i64 0]).set 0 _).set 1 _).set 2 _).set 3 _).set 4 _).set 5 _).set 6 _).set 7 _).set 8 _)
    have hB4 := Lib.hid (hB3.out.keep hHeld id)
    have hH4 := Lib.hid (hH3.out.keep hHeld id)
    have hD4 := Lib.hid (hD3.out.keep hHeld id id)
    have hK4 := Lib.hid (hK3.out.trans hHeld)
    clear hHeld hB3 hH3 hD3 hK3
    go_wp2_with (first | ((with_reducible refine at_slot 33 ?_); refine wpList_load_mid_gd (by rfl) 82 (.tmp 6) rfl w2.heap.size 0 rfl [.int .i64 (A : Nat), .int .i64 T, .int .u32 I, .int .u32 V, .int .i64 S, .int .u16 C, .int .i64 Ln] _ hH4.out.range Try.underlying82 rfl headInfo ?_) | ((with_reducible refine at_slot 34 ?_); refine wpList_load_mid_gd (by rfl) 29 (.tmp 8) rfl W3.heap.size 0 rfl [.int .i64 o.age, .int .i64 o.type, .int .u32 o.id, .int .u32 o.adv, .int .i64 o.seq, .slice none 0 0, .int .u32 o.mask, .slice none 0 0, .int .i64 o.cost] _ hO4.out.range Try.underlying29 rfl lsaInfo ?_))
    refine (ldIsNewer_bare A A' I V C I' V' C' T S Ln T' S' Ln' o hbo hdo' hA1 hAo y _ hnw').mono ?_
    rintro e w5 ⟨rfl, k5⟩
    have hD5 := Lib.hid (hD4.out.keep k5 id id)
    have hB5 := Lib.hid (hB4.out.keep k5 id)
    have hK5 := Lib.hid (hK4.out.trans k5)
    clear k5 hD4 hB4 hH4 hO4 hK4
    cases y with
    | false =>
      have hz1 : (false, (0 : Int), L) = (z, q, L') := hz0
      simp only [Prod.mk.injEq] at hz1
      obtain ⟨rfl, rfl, rfl⟩ := hz1
      clear hz0
      go_wp2_with fail
      go_ret2
      exact ⟨rfl, hD5.out, hK5.out.mono (fun i f => f.elim)⟩
    | true =>
      have hz1 : (true, (0 : Int), L.set j m) = (z, q, L') := hz0
      simp only [Prod.mk.injEq] at hz1
      obtain ⟨rfl, rfl, rfl⟩ := hz1
      clear hz0
      have hc := hD5.out.bl.cell 0 (.map (some r)) rfl
      have he := eql_mapnil r w5
      go_upto_region 11 with fail
      clear hc he
      refine wp_region_noPanic ?_
      refine wp_region_held_drew (S := (fun X => Keeps (fun k => k = r) w5 X)) (by kernel_rfl) (((Keeps.refl (fun k => k = r) _).drew)) (fun hHeld => ?_)
      refine tk 0 rfl ?_
      refine tk 1 rfl ?_
      refine tk 2 rfl ?_
      refine tkL 3 rfl (yieldsIf_load_cell (by rfl) 84 (.tmp 59) rfl b 0 rfl _ (fun _ s => (hD5.out.bl.keep s hD5.out.ne).cell 0 (.map (some r)) rfl) (fun w s => load_ldmap w _ _ _ s)) ?_
      refine tk 4 rfl ?_
      refine tkL 5 rfl (yieldsIf_load_mid (by rfl) 25 (.tmp 61) rfl w.heap.size 1 rfl [.int .i64 m.type, .int .u32 m.id, .int .u32 m.adv] _ (fun _ s => range_key (hB5.out.keep s hnr.out)) Try.underlying25 rfl keyInfo) ?_
      refine tkL 6 rfl (yieldsIf_load_mid (by rfl) 29 (.tmp 3) rfl w.heap.size 0 rfl [.int .i64 m.age, .int .i64 m.type, .int .u32 m.id, .int .u32 m.adv, .int .i64 m.seq, .slice none 0 0, .int .u32 m.mask, .slice none 0 0, .int .i64 m.cost] _ (fun _ s => (hB5.out.keep s hnr.out).range) Try.underlying29 rfl lsaInfo) ?_
      refine stepL 7 rfl (by kernel_rfl) (fun K hK => ?_)
      go_simp
      (refine (ldClone_bare m _).mono ?_; rintro e wC ⟨rfl, kC⟩)
      go_wp2_with fail
      refine hK.out _ _ ((hHeld.trans (kC.mono (fun i f => f.elim)))) (fun hHeld => ?_)
      clear hK K
      try simp only [Act.put, sA, sZ, sS]
      have hDC := (hD5.out.keep ((Keeps.refl (fun _ => False) w5).drew) id id).keep kC id id
      obtain ⟨wD, hrD, hDD, hkD⟩ := hDC.store_there m j hp'.out
      refine stepL 8 rfl (by kernel_rfl) (fun K hK => ?_)
      rw [if_pos (by rfl)]
      (refine wp_mapUpdate_run 84 (.tmp 60) (.tmp 62) (.tmp 64) rfl _ _ _ rfl rfl rfl _ hrD ?_)
      refine hK.out _ _ ((hHeld.trans hkD)) (fun hHeld => ?_)
      clear hK K
      try simp only [Act.put, sA, sZ, sS]
      refine wpAnyH_done (by kernel_rfl) (NoPanic.normal ?_) _
      have hD5 := Lib.hid hDD
      have hK5 := Lib.hid (hK5.out.mono (fun i f => f.elim) |>.trans hHeld)
      clear hHeld hDD hkD hrD kC
      go_wp2_with fail
      go_ret2
      exact ⟨rfl, hD5.out, hK5.out⟩
  | none =>
    rw [hp] at hz0
    simp only at hz0
    have hlook : Hid (lookV L m.type m.id m.adv = .tuple #[zeroLsa, .bool false]) := Lib.hid (by unfold lookV; rw [hp]; rfl)
    have hp' := Lib.hid hp
    clear hp
    refine wp_region_noPanic ?_
    refine wp_region_held_drew (S := (fun W => Keeps (fun _ => False) W3 W)) (by kernel_rfl) (((Keeps.refl (fun _ => False) _).drew)) (fun hHeld => ?_)
    refine tk 0 rfl ?_
    refine tk 1 rfl ?_
    refine tk 2 rfl ?_
    refine tkL 3 rfl (yieldsIf_load_cell (by rfl) 84 (.tmp 24) rfl b 0 rfl _ (fun _ s => (hD3.out.keep s id id).bl.cell 0 (.map (some r)) rfl) (fun w s => load_ldmap w _ _ _ s)) ?_
    refine tk 4 rfl ?_
    refine tkL 5 rfl (yieldsIf_load_mid (by rfl) 25 (.tmp 26) rfl w.heap.size 1 rfl [.int .i64 m.type, .int .u32 m.id, .int .u32 m.adv] _ (fun _ s => range_key (hB3.out.keep s id)) Try.underlying25 rfl keyInfo) ?_
    refine tkL 6 rfl (yieldsIf_lookup (by rfl) 84 (.tmp 25) (.tmp 27) rfl _ _ (.tuple #[.agg #[.int .i64 0, .int .i64 0, .int .u32 0, .int .u32 0, .int .i64 0, .slice none 0 0, .int .u32 0, .slice none 0 0, .int .i64 0], .bool false]) rfl rfl (fun _ s => by have := (hD3.out.keep s id id).lookup m.type m.id m.adv; rw [hlook.out] at this; exact this)) ?_
    refine tk 7 rfl ?_
    refine tk 8 rfl ?_
    refine tk 9 rfl ?_
    refine stepL 10 rfl (by kernel_rfl) (fun K hK => ?_)
    go_simp
    refine hK.out _ _ ((hHeld.alloc _)) (fun hHeld => ?_)
    clear hK K
    try simp only [Act.put, sA, sZ, sS]
    refine stepL 11 rfl (by kernel_rfl) (fun K hK => ?_)
    rw [if_pos (by rfl)]
    (refine wp_store_mid 29 (.tmp 8) (.tmp 29) rfl W3.heap.size 0 #[.int .i64 0, .int .i64 0, .int .u32 0, .int .u32 0, .int .i64 0, .slice none 0 0, .int .u32 0, .slice none 0 0, .int .i64 0] rfl rfl (BlkAt.there (BlkAt.new W3.drew 29 [.int .i64 0, .int .i64 0, .int .u32 0, .int .u32 0, .int .i64 0, .slice none 0 0, .int .u32 0, .slice none 0 0, .int .i64 0]) 0 9 (Nat.le_refl 9)) lsaInfo (lsa_one _ _ _ _ _ _ _ _ _ (slice_one _ _ _) (slice_one _ _ _)) ?_)
    refine hK.out _ _ ((hHeld.trans' (Keeps.setCells (F := fun k => k = W3.heap.size) (.inl rfl) _ _ _ (Keeps.refl _ _)) (fun i e => .inr (by rw [e]; exact Nat.le_refl _)))) (fun hHeld => ?_)
    clear hK K
    try simp only [Act.put, sA, sZ, sS]
    refine tk 12 rfl ?_
    refine wpAnyH_done (by kernel_rfl) (NoPanic.normal ?_) _
    have hO4 : Hid (BlkAt ((W3.drew.alloc (.cells #[.int .i64 0, .int .i64 0, .int .u32 0, .int .u32 0, .int .i64 0, .slice none 0 0, .int .u32 0, .slice none 0 0, .int .i64 0] 29)).setCells W3.heap.size 0 [.int .i64 0, .int .i64 0, .int .u32 0, .int .u32 0, .int .i64 0, .slice none 0 0, .int .u32 0, .slice none 0 0, .int .i64 0]) W3.heap.size 29 [.int .i64 0, .int .i64 0, .int .u32 0, .int .u32 0, .int .i64 0, .slice none 0 0, .int .u32 0, .slice none 0 0, .int .i64 0]) := Lib.hid ((((((((((BlkAt.new W3.drew 29 [.int .i64 0, .int .i64 0, .int .u32 0, .int .u32 0, .int .i64 0, .slice none 0 0, .int .u32 0, .slice none 0 0, .int .i64 0]).set 0 _).set 1 _).set 2 _).set 3 _).set 4 _).set 5 _).set 6 _).set 7 _).set 8 _)
    have hB4 := Lib.hid (hB3.out.keep hHeld id)
    have hH4 := Lib.hid (hH3.out.keep hHeld id)
    have hD4 := Lib.hid (hD3.out.keep hHeld id id)
    have hK4 := Lib.hid (hK3.out.trans hHeld)
    clear hHeld hB3 hH3 hD3 hK3
    obtain ⟨es, clock, hmp, hes⟩ := hD4.out.mp
    have hlen := hes.len
    rw [Array.length_toList] at hlen
    have hln := fun ty => run_len_mapd (ty := ty) hmp
    rw [hlen] at hln
    have hc := hD4.out.bl.cell 0 (.map (some r)) rfl
    obtain ⟨n, hn⟩ : ∃ n, L.length = n := ⟨_, rfl⟩
    rw [hn] at hz0 hln
    clear hmp hes hlen hn
    by_cases h20 : 20 ≤ n
    · rw [if_pos h20] at hz0
      simp only [Prod.mk.injEq] at hz0
      obtain ⟨rfl, rfl, rfl⟩ := hz0
      have h20i : (n : Int) ≥ 20 := by omega
      clear h20
      go_wp2_with fail
      go_ret2
      exact ⟨rfl, hD4.out, hK4.out.mono (fun i f => f.elim)⟩
    · rw [if_neg h20] at hz0
      simp only [Prod.mk.injEq] at hz0
      obtain ⟨rfl, rfl, rfl⟩ := hz0
      have h20i : ¬ (n : Int) ≥ 20 := by omega
      obtain ⟨w5, hw5⟩ : ∃ w5, w5 = (W3.alloc (.cells #[.int .i64 0, .int .i64 0, .int .u32 0, .int .u32 0, .int .i64 0, .slice none 0 0, .int .u32 0, .slice none 0 0, .int .i64 0] 29)).drew.setCells W3.heap.size 0 [.int .i64 0, .int .i64 0, .int .u32 0, .int .u32 0, .int .i64 0, .slice none 0 0, .int .u32 0, .slice none 0 0, .int .i64 0] := ⟨_, rfl⟩
      have hD5 : Hid (DbAt w5 b r L) := by rw [hw5]; exact hD4
      have hB5 : Hid (BlkAt w5 w.heap.size 29 [.int .i64 m.age, .int .i64 m.type, .int .u32 m.id, .int .u32 m.adv, .int .i64 m.seq, .slice none 0 0, .int .u32 m.mask, .slice none 0 0, .int .i64 m.cost]) := by rw [hw5]; exact hB4
      have hK5 : Hid (Keeps (fun _ => False) w w5) := by rw [hw5]; exact hK4
      have hc5 : w5.cell? ⟨b, 0, none⟩ = some (.map (some r)) := by rw [hw5]; exact hc
      have hln5 : ∀ ty, (Builtin.len_ #[84] ty #[.map (some r)]).run Try.prog w5 = .ok (.int .i64 n) w5 := by rw [hw5]; exact hln
      have he := eql_mapnil r w5
      rw [← hw5]
      clear h20 hw5 hO4 hH4 hD4 hB4 hK4 hc hln
      go_upto_region 11 with fail
      clear hc5 he hln5 h20i
      refine wp_region_noPanic ?_
      refine wp_region_held_drew (S := (fun X => Keeps (fun k => k = r) w5 X)) (by kernel_rfl) (((Keeps.refl (fun k => k = r) _).drew)) (fun hHeld => ?_)
      refine tk 0 rfl ?_
      refine tk 1 rfl ?_
      refine tk 2 rfl ?_
      refine tkL 3 rfl (yieldsIf_load_cell (by rfl) 84 (.tmp 59) rfl b 0 rfl _ (fun _ s => (hD5.out.bl.keep s hD5.out.ne).cell 0 (.map (some r)) rfl) (fun w s => load_ldmap w _ _ _ s)) ?_
      refine tk 4 rfl ?_
      refine tkL 5 rfl (yieldsIf_load_mid (by rfl) 25 (.tmp 61) rfl w.heap.size 1 rfl [.int .i64 m.type, .int .u32 m.id, .int .u32 m.adv] _ (fun _ s => range_key (hB5.out.keep s hnr.out)) Try.underlying25 rfl keyInfo) ?_
      refine tkL 6 rfl (yieldsIf_load_mid (by rfl) 29 (.tmp 3) rfl w.heap.size 0 rfl [.int .i64 m.age, .int .i64 m.type, .int .u32 m.id, .int .u32 m.adv, .int .i64 m.seq, .slice none 0 0, .int .u32 m.mask, .slice none 0 0, .int .i64 m.cost] _ (fun _ s => (hB5.out.keep s hnr.out).range) Try.underlying29 rfl lsaInfo) ?_
      refine stepL 7 rfl (by kernel_rfl) (fun K hK => ?_)
      go_simp
      (refine (ldClone_bare m _).mono ?_; rintro e wC ⟨rfl, kC⟩)
      go_wp2_with fail
      refine hK.out _ _ ((hHeld.trans (kC.mono (fun i f => f.elim)))) (fun hHeld => ?_)
      clear hK K
      try simp only [Act.put, sA, sZ, sS]
      have hDC := (hD5.out.keep ((Keeps.refl (fun _ => False) w5).drew) id id).keep kC id id
      obtain ⟨wD, hrD, hDD, hkD⟩ := hDC.store_new m hp'.out
      refine stepL 8 rfl (by kernel_rfl) (fun K hK => ?_)
      rw [if_pos (by rfl)]
      (refine wp_mapUpdate_run 84 (.tmp 60) (.tmp 62) (.tmp 64) rfl _ _ _ rfl rfl rfl _ hrD ?_)
      refine hK.out _ _ ((hHeld.trans hkD)) (fun hHeld => ?_)
      clear hK K
      try simp only [Act.put, sA, sZ, sS]
      refine wpAnyH_done (by kernel_rfl) (NoPanic.normal ?_) _
      have hD5 := Lib.hid hDD
      have hK5 := Lib.hid (hK5.out.mono (fun i f => f.elim) |>.trans hHeld)
      clear hHeld hDD hkD hrD kC
      go_wp2_with fail
      go_ret2
      exact ⟨rfl, hD5.out, hK5.out⟩
end Go.Proofs.Ytdaongflpllfhaa
/- lsdb.Find of bare Lsas, walked (gen_lde.py writes this). -/
namespace Go.Proofs.Ytdaongflpllfhaa
open Go.RowKit

def noneL : LsaD := ⟨0, 0, 0, 0, 0, [], 0, [], 0⟩
def findD (L : List LsaD) (t : Int) (i a : Nat) : LsaD × Bool := match (posK L t i a).bind fun j => L[j]? with
  | some o => (o, true)
  | none => (zeroL, false)
set_option maxRecDepth 100000 in
set_option maxHeartbeats 2000000 in
theorem ldFind_bare (b r : Nat) (L : List LsaD) (t : Int) (i a : Nat) (o : LsaD) (z : Bool) (w : World) (h : Hid (DbAt w b r L)) (hz : Hid (findD L t i a = (o, z))) :
    Calls Try.prog 8 #[.pointer (some ⟨b, 0, none⟩), .agg #[.int .i64 t, .int .u32 i, .int .u32 a]] w fun e w' => e = .returned (.tuple #[bareV o, .bool z]) ∧ Keeps (fun _ => False) w w' := by
  have hlook : Hid (lookV L t i a = .tuple #[.agg #[.int .i64 o.age, .int .i64 o.type, .int .u32 o.id, .int .u32 o.adv, .int .i64 o.seq, .slice none 0 0, .int .u32 o.mask, .slice none 0 0, .int .i64 o.cost], .bool z]) := Lib.hid (by
    have := hz.out
    unfold findD at this
    unfold lookV
    cases hq : (posK L t i a).bind fun j => L[j]? with
    | some q =>
      rw [hq] at this
      injection this with e1 e2; subst e1; subst e2; rfl
    | none =>
      rw [hq] at this
      injection this with e1 e2; subst e1; subst e2; rfl)
  obtain ⟨W0, hW0⟩ : ∃ W0, W0 = (w.alloc (.cells #[.int .i64 t, .int .u32 i, .int .u32 a] 25)).alloc (.cells #[.int .i64 0, .int .i64 0, .int .u32 0, .int .u32 0, .int .i64 0, .slice none 0 0, .int .u32 0, .slice none 0 0, .int .i64 0] 29) := ⟨_, rfl⟩
  have hB : Hid (BlkAt W0 w.heap.size 25 [.int .i64 t, .int .u32 i, .int .u32 a]) := Lib.hid (by rw [hW0]; exact (BlkAt.new w 25 [.int .i64 t, .int .u32 i, .int .u32 a]).alloc _)
  have hR : Hid (BlkAt W0 (w.heap.size + 1) 29 [.int .i64 0, .int .i64 0, .int .u32 0, .int .u32 0, .int .i64 0, .slice none 0 0, .int .u32 0, .slice none 0 0, .int .i64 0]) := Lib.hid (by
    have := BlkAt.new (w.alloc (.cells #[.int .i64 t, .int .u32 i, .int .u32 a] 25)) 29 [.int .i64 0, .int .i64 0, .int .u32 0, .int .u32 0, .int .i64 0, .slice none 0 0, .int .u32 0, .slice none 0 0, .int .i64 0]
    rw [hW0]; simpa using this)
  have hK : Hid (Keeps (fun _ => False) w W0) := Lib.hid (by rw [hW0]; exact ((Keeps.refl _ _).alloc _).alloc _)
  have hD := Lib.hid (h.out.keep hK.out id id)
  have hW0' := Lib.hid hW0
  clear hW0 h
  go_enter Try.func8, Try.ntmps8
  go_upto_region 3 with fail
  rw [← hW0'.out]
  clear hW0'
  refine wp_region_noPanic ?_
  refine wp_region_held_drew (S := (fun W => Keeps (fun _ => False) W0 W)) (by kernel_rfl) (((Keeps.refl (fun _ => False) _).drew)) (fun hHeld => ?_)
  refine tk 0 rfl ?_
  refine tk 1 rfl ?_
  refine tk 2 rfl ?_
  refine tkL 3 rfl (yieldsIf_load_cell (by rfl) 84 (.tmp 14) rfl b 0 rfl _ (fun _ s => (hD.out.keep s id id).bl.cell 0 (.map (some r)) rfl) (fun w s => load_ldmap w _ _ _ s)) ?_
  refine tkL 4 rfl (yieldsIf_load_mid (by rfl) 25 (.tmp 3) rfl w.heap.size 0 rfl [.int .i64 t, .int .u32 i, .int .u32 a] _ (fun _ s => (hB.out.keep s id).range) Try.underlying25 rfl keyInfo) ?_
  refine tkL 5 rfl (yieldsIf_lookup (by rfl) 84 (.tmp 15) (.tmp 16) rfl _ _ (.tuple #[.agg #[.int .i64 o.age, .int .i64 o.type, .int .u32 o.id, .int .u32 o.adv, .int .i64 o.seq, .slice none 0 0, .int .u32 o.mask, .slice none 0 0, .int .i64 o.cost], .bool z]) rfl rfl (fun _ s => by have := (hD.out.keep s id id).lookup t i a; rw [hlook.out] at this; exact this)) ?_
  refine tk 6 rfl ?_
  refine tk 7 rfl ?_
  refine tk 8 rfl ?_
  refine stepL 9 rfl (by kernel_rfl) (fun K hK => ?_)
  go_simp
  refine hK.out _ _ ((hHeld.alloc _)) (fun hHeld => ?_)
  clear hK K
  try simp only [Act.put, sA, sZ, sS]
  refine stepL 10 rfl (by kernel_rfl) (fun K hK => ?_)
  rw [if_pos (by rfl)]
  (refine wp_store_mid 29 (.tmp 6) (.tmp 18) rfl W0.heap.size 0 #[.int .i64 o.age, .int .i64 o.type, .int .u32 o.id, .int .u32 o.adv, .int .i64 o.seq, .slice none 0 0, .int .u32 o.mask, .slice none 0 0, .int .i64 o.cost] rfl rfl (BlkAt.there (BlkAt.new W0.drew 29 [.int .i64 0, .int .i64 0, .int .u32 0, .int .u32 0, .int .i64 0, .slice none 0 0, .int .u32 0, .slice none 0 0, .int .i64 0]) 0 9 (Nat.le_refl 9)) lsaInfo (lsa_one _ _ _ _ _ _ _ _ _ (slice_one _ _ _) (slice_one _ _ _)) ?_)
  refine hK.out _ _ ((hHeld.trans' (Keeps.setCells (F := fun k => k = W0.heap.size) (.inl rfl) _ _ _ (Keeps.refl _ _)) (fun i e => .inr (by rw [e]; exact Nat.le_refl _)))) (fun hHeld => ?_)
  clear hK K
  try simp only [Act.put, sA, sZ, sS]
  refine tk 11 rfl ?_
  refine wpAnyH_done (by kernel_rfl) (NoPanic.normal ?_) _
  have hO4 : Hid (BlkAt ((W0.drew.alloc (.cells #[.int .i64 0, .int .i64 0, .int .u32 0, .int .u32 0, .int .i64 0, .slice none 0 0, .int .u32 0, .slice none 0 0, .int .i64 0] 29)).setCells W0.heap.size 0 [.int .i64 o.age, .int .i64 o.type, .int .u32 o.id, .int .u32 o.adv, .int .i64 o.seq, .slice none 0 0, .int .u32 o.mask, .slice none 0 0, .int .i64 o.cost]) W0.heap.size 29 [.int .i64 o.age, .int .i64 o.type, .int .u32 o.id, .int .u32 o.adv, .int .i64 o.seq, .slice none 0 0, .int .u32 o.mask, .slice none 0 0, .int .i64 o.cost]) := Lib.hid ((((((((((BlkAt.new W0.drew 29 [.int .i64 0, .int .i64 0, .int .u32 0, .int .u32 0, .int .i64 0, .slice none 0 0, .int .u32 0, .slice none 0 0, .int .i64 0]).set 0 _).set 1 _).set 2 _).set 3 _).set 4 _).set 5 _).set 6 _).set 7 _).set 8 _)
  have hR4 := Lib.hid (hR.out.keep hHeld id)
  have hK4 := Lib.hid (hK.out.trans hHeld)
  clear hHeld hR hK hD hB
  go_wp2_with ((with_reducible refine at_slot 20 ?_); refine wpList_load_mid rfl 29 (.tmp 6) rfl W0.heap.size 0 rfl [.int .i64 o.age, .int .i64 o.type, .int .u32 o.id, .int .u32 o.adv, .int .i64 o.seq, .slice none 0 0, .int .u32 o.mask, .slice none 0 0, .int .i64 o.cost] _ hO4.out.range Try.underlying29 rfl lsaInfo ?_)
  refine (ldClone_bare o _).mono ?_
  rintro e w5 ⟨rfl, k5⟩
  have hR5 := Lib.hid (hR4.out.keep k5 id)
  have hK5 := Lib.hid (hK4.out.trans k5)
  clear k5 hR4 hK4 hO4
  unfold bareV
  go_wp2_with ((with_reducible refine at_store 4 ?_); refine wpList_store_blk rfl 29 (.tmp 4) (.tmp 21) rfl (w.heap.size + 1) #[.int .i64 o.age, .int .i64 o.type, .int .u32 o.id, .int .u32 o.adv, .int .i64 o.seq, .slice none 0 0, .int .u32 o.mask, .slice none 0 0, .int .i64 o.cost] rfl rfl (BlkAt.there hR5.out 0 9 (Nat.le_refl 9)) lsaInfo (lsa_one _ _ _ _ _ _ _ _ _ (slice_one _ _ _) (slice_one _ _ _)) ?_; intro w9 hr9 hs9)
  have c0 := rangeAt_cell hr9.out 0 (.int .i64 o.age) rfl
  have c1 := rangeAt_cell hr9.out 1 (.int .i64 o.type) rfl
  have c2 := rangeAt_cell hr9.out 2 (.int .u32 o.id) rfl
  have c3 := rangeAt_cell hr9.out 3 (.int .u32 o.adv) rfl
  have c4 := rangeAt_cell hr9.out 4 (.int .i64 o.seq) rfl
  have c5 := rangeAt_cell hr9.out 5 (.slice none 0 0) rfl
  have c6 := rangeAt_cell hr9.out 6 (.int .u32 o.mask) rfl
  have c7 := rangeAt_cell hr9.out 7 (.slice none 0 0) rfl
  have c8 := rangeAt_cell hr9.out 8 (.int .i64 o.cost) rfl
  refine bodyPost_ret (v := .tuple #[.agg #[.int .i64 o.age, .int .i64 o.type, .int .u32 o.id, .int .u32 o.adv, .int .i64 o.seq, .slice none 0 0, .int .u32 o.mask, .slice none 0 0, .int .i64 o.cost], .bool z]) (by simp [results, Try.results8, go_sem, c0, c1, c2, c3, c4, c5, c6, c7, c8]) rfl ⟨rfl, ?_⟩
  exact hK5.out.trans' hs9.out (fun i e => .inr (by rw [e]; omega))
end Go.Proofs.Ytdaongflpllfhaa
/- keeps, walked. -/
namespace Go.Proofs.Ytdaongflpllfhaa
open Go.RowKit

def kL : LsaD := ⟨0, 1, 5, 5, 1, [], 0, [], 0⟩
theorem kBare : Bare kL := ⟨rfl, rfl, by decide, by decide, by decide, by decide⟩
theorem kAge : hA kL = 0 := by kernel_rfl
theorem cmpH_self (a : Nat) (s : Int) (c : Nat) : decide (cmpH a a s s c c = 1) = false := by
  unfold cmpH cmpI
  simp
theorem kPut0 : putD [] kL = (true, 0, [kL]) := rfl
theorem kPos : posK [kL] kL.type kL.id kL.adv = some 0 := by decide
theorem kPut1 : putD [kL] kL = (false, 0, [kL]) := by
  unfold putD
  rw [kPos]
  have : newerD kL kL = false := cmpH_self _ _ _
  simp [this]
theorem kFind : findD [kL] 1 5 5 = (kL, true) := by
  unfold findD
  rw [show posK [kL] 1 5 5 = some 0 from by decide]; rfl
set_option maxRecDepth 100000 in
set_option maxHeartbeats 2000000 in
theorem lwKeeps_any (w : World) : Calls Try.prog 10 #[] w fun e w' => e = .returned (.bool true) ∧ Keeps (fun _ => False) w w' := by
  go_enter Try.func10, Try.ntmps10
  go_wp2_with fail
  refine (ldNew_any w).mono ?_
  rintro e w1 ⟨⟨b, r, rfl, hD, hb0, hr0⟩, k1⟩
  obtain ⟨W2, hW2⟩ : ∃ W2, W2 = w1.alloc (.cells #[.int .i64 0, .int .i64 1, .int .u32 5, .int .u32 5, .int .i64 1, .slice none 0 0, .int .u32 0, .slice none 0 0, .int .i64 0] 29) := ⟨_, rfl⟩
  have k2 : Keeps (fun _ => False) w1 W2 := by rw [hW2]; exact (Keeps.refl _ _).alloc _
  have hD2 := Lib.hid (hD.keep k2 id id)
  have hX2 : Hid (BlkAt W2 w1.heap.size 29 [.int .i64 0, .int .i64 1, .int .u32 5, .int .u32 5, .int .i64 1, .slice none 0 0, .int .u32 0, .slice none 0 0, .int .i64 0]) := Lib.hid (by rw [hW2]; exact BlkAt.new w1 29 (bareL kL))
  have hXr : Hid (¬ w1.heap.size = r) := Lib.hid (by have := hD.lt.2; omega)
  have hK2 := Lib.hid (k1.trans k2)
  have hr0' := Lib.hid hr0
  have hW2' := Lib.hid hW2
  clear hD k1 k2 hW2 hb0 hr0
  go_upto_region 3 with ((with_reducible refine at_store 2 ?_); refine wpList_store_new rfl 29 (.tmp 2) (.tmp 11) rfl _ _ rfl rfl lsaInfo rfl (lsa_one _ _ _ _ _ _ _ _ _ (slice_one _ _ _) (slice_one _ _ _)) ?_)
  rw [← hW2'.out]
  clear hW2'
  go_wp2_with ((with_reducible refine at_slot 14 ?_); refine wpList_load_mid rfl 29 (.tmp 2) rfl w1.heap.size 0 rfl _ _ hX2.out.range Try.underlying29 rfl lsaInfo ?_)
  refine (ldPut_bare b r [] [kL] kL kBare (by simp) (by rw [kAge]; omega) true 0 _ hD2 (Lib.hid kPut0)).mono ?_
  rintro e w3 ⟨rfl, hD3, k3⟩
  have hD3' := Lib.hid hD3
  have hX3 := Lib.hid (hX2.out.keep k3 hXr.out)
  have hK3 := Lib.hid (hK2.out.trans' k3 (fun i e => .inr (by rw [e]; exact hr0'.out)))
  clear hD3 k3 hD2 hX2 hK2
  go_wp2_with ((with_reducible refine at_slot 20 ?_); refine wpList_load_mid rfl 29 (.tmp 2) rfl w1.heap.size 0 rfl _ _ hX3.out.range Try.underlying29 rfl lsaInfo ?_)
  refine (ldPut_bare b r [kL] [kL] kL kBare (by intro o ho; rw [List.mem_singleton] at ho; subst ho; exact ⟨kBare, by rw [kAge]; omega⟩) (by rw [kAge]; omega) false 0 _ hD3' (Lib.hid kPut1)).mono ?_
  rintro e w4 ⟨rfl, hD4, k4⟩
  have hD4' := Lib.hid hD4
  have hX4 := Lib.hid (hX3.out.keep k4 hXr.out)
  have hK4 := Lib.hid (hK3.out.trans' k4 (fun i e => .inr (by rw [e]; exact hr0'.out)))
  clear hD4 k4 hD3' hX3 hK3
  go_wp2_with ((with_reducible refine at_slot 27 ?_); refine wpList_load_mid rfl 25 (.tmp 26) rfl w1.heap.size 1 rfl _ _ (range_key hX4.out) Try.underlying25 rfl keyInfo ?_)
  refine (ldFind_bare b r [kL] 1 5 5 kL true _ hD4' (Lib.hid kFind)).mono ?_
  rintro e w5 ⟨rfl, k5⟩
  have hD5 := Lib.hid ((hD4'.out.keep k5 id id).keep ((Keeps.refl (fun _ => False) w5).alloc (.cells #[.int .i64 0, .int .i64 1, .int .u32 5, .int .u32 5, .int .i64 1, .slice none 0 0, .int .u32 0, .slice none 0 0, .int .i64 0] 29)) id id)
  have hK5 := Lib.hid ((hK4.out.trans k5).alloc (.cells #[.int .i64 0, .int .i64 1, .int .u32 5, .int .u32 5, .int .i64 1, .slice none 0 0, .int .u32 0, .slice none 0 0, .int .i64 0] 29))
  clear k5 hD4' hX4 hK4
  unfold bareV
  simp only [kL]
  go_wp2_with ((with_reducible refine at_store 7 ?_); refine wpList_store_new rfl 29 (.tmp 7) (.tmp 29) rfl _ _ rfl rfl lsaInfo rfl (lsa_one _ _ _ _ _ _ _ _ _ (slice_one _ _ _) (slice_one _ _ _)) ?_)
  refine (ldCount_any b r [kL] _ hD5).mono ?_
  rintro e w6 ⟨rfl, rfl⟩
  go_wp2_with fail
  go_ret
  exact ⟨rfl, hK5.out⟩
end Go.Proofs.Ytdaongflpllfhaa
/- lsdb.Less, the document's Less, the key: walked. -/
namespace Go.Proofs.Ytdaongflpllfhaa
open Go.RowKit

def orI (a b : Int) : Int := if a ≠ 0 then a else b
set_option maxHeartbeats 1000000 in
theorem nanU32_any (a : Nat) (w : World) : Calls Try.prog 99 #[.int .u32 a] w fun e w' => e = .returned (.bool false) ∧ w = w' := by
  have h : ((a : Int) != (a : Int)) = false := by simp
  go_enter Try.func99, Try.ntmps99
  go_wp2_with fail
  go_ret
  exact ⟨rfl, rfl⟩
set_option maxHeartbeats 1000000 in
theorem cmpU32_any (a b : Nat) (w : World) : Calls Try.prog 65 #[.int .u32 a, .int .u32 b] w fun e w' => e = .returned (.int .i64 (cmpI a b)) ∧ w = w' := by
  unfold cmpI
  by_cases h1 : (a : Int) < b
  · rw [if_pos h1]
    go_enter Try.func65, Try.ntmps65
    go_wp2_with fail
    refine (nanU32_any _ _).mono ?_
    rintro e w' ⟨rfl, rfl⟩
    go_wp2_with fail
    refine (nanU32_any _ _).mono ?_
    rintro e w' ⟨rfl, rfl⟩
    go_wp2_with fail
    go_ret
    exact ⟨rfl, rfl⟩
  · rw [if_neg h1]
    by_cases h2 : (a : Int) > b
    · rw [if_pos h2]
      go_enter Try.func65, Try.ntmps65
      go_wp2_with fail
      refine (nanU32_any _ _).mono ?_
      rintro e w' ⟨rfl, rfl⟩
      go_wp2_with fail
      refine (nanU32_any _ _).mono ?_
      rintro e w' ⟨rfl, rfl⟩
      go_wp2_with fail
      go_ret
      exact ⟨rfl, rfl⟩
    · rw [if_neg h2]
      go_enter Try.func65, Try.ntmps65
      go_wp2_with fail
      refine (nanU32_any _ _).mono ?_
      rintro e w' ⟨rfl, rfl⟩
      go_wp2_with fail
      refine (nanU32_any _ _).mono ?_
      rintro e w' ⟨rfl, rfl⟩
      go_wp2_with fail
      go_ret
      exact ⟨rfl, rfl⟩

set_option maxHeartbeats 1000000 in
theorem orInt3_any (g c0 : Nat) (a b c : Int) (z : Int) (w : World) (hz : Hid (orI a (orI b c) = z)) (h : Hid (w.rangeAt g 0 [.int .i64 a, .int .i64 b, .int .i64 c])) :
    Calls Try.prog 63 #[.slice (some ⟨g, 0, none⟩) 3 c0] w fun e w' => e = .returned (.int .i64 z) ∧ w = w' := by
  have h0 : w.cell? ⟨g, 0, none⟩ = some (.int .i64 a) := h.out 0 _ rfl
  have h1 : w.cell? ⟨g, 1, none⟩ = some (.int .i64 b) := h.out 1 _ rfl
  have h2 : w.cell? ⟨g, 2, none⟩ = some (.int .i64 c) := h.out 2 _ rfl
  have hzA : Hid (a ≠ 0 → a = z) := Lib.hid (fun e => by rw [← hz.out]; unfold orI; rw [if_pos e])
  have hzB : Hid (a = 0 → b ≠ 0 → b = z) := Lib.hid (fun e f => by rw [← hz.out]; unfold orI; rw [if_neg (fun h => h e), if_pos f])
  have hzC : Hid (a = 0 → b = 0 → c = z) := Lib.hid (fun e f => by rw [← hz.out]; unfold orI; rw [if_neg (fun h => h e), if_neg (fun h => h f)])
  clear h hz
  go_enter Try.func63, Try.ntmps63
  go_wp2_with fail
  go_loop [8] (fun iv => ∃ k : Nat, k ≤ 3 ∧ iv = .int .i64 k ∧ (1 ≤ k → a = 0) ∧ (2 ≤ k → b = 0) ∧ (3 ≤ k → c = 0)) (fun iv => 3 - (intOf iv).toNat)
  case atStart => exact ⟨0, by omega, rfl, by omega, by omega, by omega⟩
  case round =>
    obtain ⟨k, hk, rfl, ha, hb, hc⟩ := hrel
    have ha' := Lib.hid ha; have hb' := Lib.hid hb; have hc' := Lib.hid hc
    clear ha hb hc
    have hk3 : k = 0 ∨ k = 1 ∨ k = 2 ∨ k = 3 := by omega
    rcases hk3 with rfl | rfl | rfl | rfl
    · by_cases e : a = 0
      · have e1 : (a != 0) = false := by rw [e]; rfl
        have e' := Lib.hid e
        clear e
        go_wp2_with fail
        exact ⟨⟨1, by omega, rfl, fun _ => e'.out, by omega, by omega⟩, by simp [intOf]⟩
      · have e1 : (a != 0) = true := by rw [bne_iff_ne]; exact e
        have ez := Lib.hid (hzA.out e)
        clear e
        go_wp2_with fail
        go_ret
        exact ⟨by rw [ez.out]; rfl, rfl⟩
    · by_cases e : b = 0
      · have e1 : (b != 0) = false := by rw [e]; rfl
        have e' := Lib.hid e
        clear e
        go_wp2_with fail
        exact ⟨⟨2, by omega, rfl, fun _ => ha'.out (by omega), fun _ => e'.out, by omega⟩, by simp [intOf]⟩
      · have e1 : (b != 0) = true := by rw [bne_iff_ne]; exact e
        have ez := Lib.hid (hzB.out (ha'.out (by omega)) e)
        clear e
        go_wp2_with fail
        go_ret
        exact ⟨by rw [ez.out]; rfl, rfl⟩
    · by_cases e : c = 0
      · have e1 : (c != 0) = false := by rw [e]; rfl
        have e' := Lib.hid e
        clear e
        go_wp2_with fail
        exact ⟨⟨3, by omega, rfl, fun _ => ha'.out (by omega), fun _ => hb'.out (by omega), fun _ => e'.out⟩, by simp [intOf]⟩
      · have e1 : (c != 0) = true := by rw [bne_iff_ne]; exact e
        have ez := Lib.hid (hzC.out (ha'.out (by omega)) (hb'.out (by omega)))
        clear e
        go_wp2_with fail
        go_ret
        exact ⟨by rw [ez.out]; rfl, rfl⟩
    · have ez : Hid (0 = z) := Lib.hid ((hc'.out (by omega)).symm.trans (hzC.out (ha'.out (by omega)) (hb'.out (by omega))))
      go_wp2_with fail
      go_ret
      exact ⟨by rw [← ez.out]; rfl, rfl⟩
def ordD (a b : KeyD) : Int := orI (cmpI a.type b.type) (orI (cmpI a.adv b.adv) (cmpI a.id b.id))
set_option maxRecDepth 100000 in
theorem ldOrder_any (a b : KeyD) (z : Int) (w : World) (hz : Hid (ordD a b = z)) :
    Calls Try.prog 40 #[.agg #[.int .i64 a.type, .int .u32 a.id, .int .u32 a.adv], .agg #[.int .i64 b.type, .int .u32 b.id, .int .u32 b.adv]] w (fun e w' => e = .returned (.int .i64 z) ∧ Keeps (fun _ => False) w w') := by
  have hA : Hid (Boxed w.heap.size [.int .i64 a.type, .int .u32 a.id, .int .u32 a.adv] w ((w.alloc (.cells #[.int .i64 a.type, .int .u32 a.id, .int .u32 a.adv] 25)).alloc (.cells #[.int .i64 b.type, .int .u32 b.id, .int .u32 b.adv] 25))) := Lib.hid ((boxed_new w _ _).next ((Keeps.refl _ _).alloc _))
  have hB : Hid (Boxed (w.heap.size + 1) [.int .i64 b.type, .int .u32 b.id, .int .u32 b.adv] (w.alloc (.cells #[.int .i64 a.type, .int .u32 a.id, .int .u32 a.adv] 25)) ((w.alloc (.cells #[.int .i64 a.type, .int .u32 a.id, .int .u32 a.adv] 25)).alloc (.cells #[.int .i64 b.type, .int .u32 b.id, .int .u32 b.adv] 25))) := Lib.hid (by
    have := boxed_new (w.alloc (.cells #[.int .i64 a.type, .int .u32 a.id, .int .u32 a.adv] 25)) [.int .i64 b.type, .int .u32 b.id, .int .u32 b.adv] 25
    simpa using this)
  obtain ⟨wB, hwB⟩ : ∃ wB, wB = (w.alloc (.cells #[.int .i64 a.type, .int .u32 a.id, .int .u32 a.adv] 25)).alloc (.cells #[.int .i64 b.type, .int .u32 b.id, .int .u32 b.adv] 25) := ⟨_, rfl⟩
  have hwB' := Lib.hid hwB
  rw [← hwB] at hA hB
  clear hwB
  go_enter Try.func40, Try.ntmps40
  go_upto_region 1 with fail
  rw [← hwB'.out]
  refine wp_region_noPanic ?_
  refine wp_region_held_drew (S := (fun W => Keeps (fun _ => False) wB W)) (by kernel_rfl) (((Keeps.refl (fun _ => False) _).drew)) (fun hHeld => ?_)
  refine tk 0 rfl ?_
  refine tkL 1 rfl (yieldsIf_load_cell (by rfl) 3 (.tmp 5) rfl w.heap.size 0 rfl _ (fun _ s => (hA.out.next s).cell 0 (.int .i64 a.type) rfl) (fun w s => load_int w _ _ _ s)) ?_
  refine tk 2 rfl ?_
  refine tkL 3 rfl (yieldsIf_load_cell (by rfl) 3 (.tmp 7) rfl (w.heap.size + 1) 0 rfl _ (fun _ s => (hB.out.next s).cell 0 (.int .i64 b.type) rfl) (fun w s => load_int w _ _ _ s)) ?_
  refine tk 5 rfl ?_
  refine tkL 6 rfl (yieldsIf_load_cell (by rfl) 23 (.tmp 10) rfl w.heap.size 2 rfl _ (fun _ s => (hA.out.next s).cell 2 (.int .u32 a.adv) rfl) (fun w s => load_u32 w _ _ _ s)) ?_
  refine tk 7 rfl ?_
  refine tkL 8 rfl (yieldsIf_load_cell (by rfl) 23 (.tmp 12) rfl (w.heap.size + 1) 2 rfl _ (fun _ s => (hB.out.next s).cell 2 (.int .u32 b.adv) rfl) (fun w s => load_u32 w _ _ _ s)) ?_
  refine tk 10 rfl ?_
  refine tkL 11 rfl (yieldsIf_load_cell (by rfl) 23 (.tmp 15) rfl w.heap.size 1 rfl _ (fun _ s => (hA.out.next s).cell 1 (.int .u32 a.id) rfl) (fun w s => load_u32 w _ _ _ s)) ?_
  refine tk 12 rfl ?_
  refine tkL 13 rfl (yieldsIf_load_cell (by rfl) 23 (.tmp 17) rfl (w.heap.size + 1) 1 rfl _ (fun _ s => (hB.out.next s).cell 1 (.int .u32 b.id) rfl) (fun w s => load_u32 w _ _ _ s)) ?_
  refine stepL 4 rfl (by kernel_rfl) (fun K hK => ?_)
  go_simp
  (refine (cmpInt_any _ _ _).mono ?_; rintro e w' ⟨rfl, rfl⟩)
  go_wp2_with fail
  refine hK.out _ _ (hHeld) (fun hHeld => ?_)
  clear hK K
  try simp only [Act.put, sA, sZ, sS]
  refine stepL 9 rfl (by kernel_rfl) (fun K hK => ?_)
  go_simp
  (refine (cmpU32_any _ _ _).mono ?_; rintro e w' ⟨rfl, rfl⟩)
  go_wp2_with fail
  refine hK.out _ _ (hHeld) (fun hHeld => ?_)
  clear hK K
  try simp only [Act.put, sA, sZ, sS]
  refine stepL 14 rfl (by kernel_rfl) (fun K hK => ?_)
  go_simp
  (refine (cmpU32_any _ _ _).mono ?_; rintro e w' ⟨rfl, rfl⟩)
  go_wp2_with fail
  refine hK.out _ _ (hHeld) (fun hHeld => ?_)
  clear hK K
  try simp only [Act.put, sA, sZ, sS]
  refine stepL 15 rfl (by kernel_rfl) (fun K hK => ?_)
  go_simp
  refine hK.out _ _ ((hHeld.alloc _)) (fun hHeld => ?_)
  clear hK K
  try simp only [Act.put, sA, sZ, sS]
  refine stepL 16 rfl (by kernel_rfl) (fun K hK => ?_)
  go_simp
  (refine (orInt3_any _ _ _ _ _ z _ hz (Lib.hid (Keeps.rangeAt ((Keeps.refl (fun _ => False) _).drew) (new_rangeb wB _ _) id))).mono ?_; rintro e w' ⟨rfl, rfl⟩)
  go_wp2_with fail
  refine hK.out _ _ (hHeld) (fun hHeld => ?_)
  clear hK K
  try simp only [Act.put, sA, sZ, sS]
  refine tk 17 rfl ?_
  refine wpAnyH_done (by kernel_rfl) (NoPanic.normal ?_) _
  go_wp2_with fail
  go_ret
  exact ⟨rfl, (hwB'.out ▸ (((Keeps.refl (fun _ => False) w).alloc _).alloc _)).trans hHeld⟩
end Go.Proofs.Ytdaongflpllfhaa
/- slices.SortFunc at keys of Lsas of the call's own: they are sorted. -/
set_option linter.unusedVariables false
set_option linter.unusedSimpArgs false
namespace Go.Proofs.Ytdaongflpllfhaa
open Go.RowKit Go.Sort Go.Shelf

set_option maxRecDepth 100000 in
theorem ldOrder_c (a b : KeyD) (z : Int) (w : World) (hz : Hid (ordD a b = z)) :
    Calls Try.prog 40 #[.agg #[.int .i64 a.type, .int .u32 a.id, .int .u32 a.adv], .agg #[.int .i64 b.type, .int .u32 b.id, .int .u32 b.adv]] w (fun e w' => e = .returned (.int .i64 z) ∧ ∃ q os, w' = grow (w.drewN q) os) := by
  have hA : Hid (Boxed w.heap.size [.int .i64 a.type, .int .u32 a.id, .int .u32 a.adv] w ((w.alloc (.cells #[.int .i64 a.type, .int .u32 a.id, .int .u32 a.adv] 25)).alloc (.cells #[.int .i64 b.type, .int .u32 b.id, .int .u32 b.adv] 25))) := Lib.hid ((boxed_new w _ _).next ((Keeps.refl _ _).alloc _))
  have hB : Hid (Boxed (w.heap.size + 1) [.int .i64 b.type, .int .u32 b.id, .int .u32 b.adv] (w.alloc (.cells #[.int .i64 a.type, .int .u32 a.id, .int .u32 a.adv] 25)) ((w.alloc (.cells #[.int .i64 a.type, .int .u32 a.id, .int .u32 a.adv] 25)).alloc (.cells #[.int .i64 b.type, .int .u32 b.id, .int .u32 b.adv] 25))) := Lib.hid (by
    have := boxed_new (w.alloc (.cells #[.int .i64 a.type, .int .u32 a.id, .int .u32 a.adv] 25)) [.int .i64 b.type, .int .u32 b.id, .int .u32 b.adv] 25
    simpa using this)
  obtain ⟨wB, hwB⟩ : ∃ wB, wB = (w.alloc (.cells #[.int .i64 a.type, .int .u32 a.id, .int .u32 a.adv] 25)).alloc (.cells #[.int .i64 b.type, .int .u32 b.id, .int .u32 b.adv] 25) := ⟨_, rfl⟩
  have hwB' := Lib.hid hwB
  have hg : Hid (wB = grow w #[.cells #[.int .i64 a.type, .int .u32 a.id, .int .u32 a.adv] 25, .cells #[.int .i64 b.type, .int .u32 b.id, .int .u32 b.adv] 25]) := Lib.hid (by rw [hwB, alloc_eq_grow, alloc_eq_grow, grow_grow]; rfl)
  rw [← hwB] at hA hB
  clear hwB
  go_enter Try.func40, Try.ntmps40
  go_upto_region 1 with fail
  rw [← hwB'.out]
  refine wp_region_noPanic ?_
  refine wp_region_held_drew (S := (fun W => Keeps (fun _ => False) wB W ∧ ∃ q os, W = grow (w.drewN q) os)) (by kernel_rfl) (⟨(Keeps.refl (fun _ => False) _).drew, 1, _, by rw [hg.out]; rfl⟩) (fun hHeld => ?_)
  refine tk 0 rfl ?_
  refine tkL 1 rfl (yieldsIf_load_cell (by rfl) 3 (.tmp 5) rfl w.heap.size 0 rfl _ (fun _ s => (hA.out.next s.1).cell 0 (.int .i64 a.type) rfl) (fun w s => load_int w _ _ _ s)) ?_
  refine tk 2 rfl ?_
  refine tkL 3 rfl (yieldsIf_load_cell (by rfl) 3 (.tmp 7) rfl (w.heap.size + 1) 0 rfl _ (fun _ s => (hB.out.next s.1).cell 0 (.int .i64 b.type) rfl) (fun w s => load_int w _ _ _ s)) ?_
  refine tk 5 rfl ?_
  refine tkL 6 rfl (yieldsIf_load_cell (by rfl) 23 (.tmp 10) rfl w.heap.size 2 rfl _ (fun _ s => (hA.out.next s.1).cell 2 (.int .u32 a.adv) rfl) (fun w s => load_u32 w _ _ _ s)) ?_
  refine tk 7 rfl ?_
  refine tkL 8 rfl (yieldsIf_load_cell (by rfl) 23 (.tmp 12) rfl (w.heap.size + 1) 2 rfl _ (fun _ s => (hB.out.next s.1).cell 2 (.int .u32 b.adv) rfl) (fun w s => load_u32 w _ _ _ s)) ?_
  refine tk 10 rfl ?_
  refine tkL 11 rfl (yieldsIf_load_cell (by rfl) 23 (.tmp 15) rfl w.heap.size 1 rfl _ (fun _ s => (hA.out.next s.1).cell 1 (.int .u32 a.id) rfl) (fun w s => load_u32 w _ _ _ s)) ?_
  refine tk 12 rfl ?_
  refine tkL 13 rfl (yieldsIf_load_cell (by rfl) 23 (.tmp 17) rfl (w.heap.size + 1) 1 rfl _ (fun _ s => (hB.out.next s.1).cell 1 (.int .u32 b.id) rfl) (fun w s => load_u32 w _ _ _ s)) ?_
  refine stepL 4 rfl (by kernel_rfl) (fun K hK => ?_)
  go_simp
  (refine (cmpInt_any _ _ _).mono ?_; rintro e w' ⟨rfl, rfl⟩)
  go_wp2_with fail
  refine hK.out _ _ (hHeld) (fun hHeld => ?_)
  clear hK K
  try simp only [Act.put, sA, sZ, sS]
  refine stepL 9 rfl (by kernel_rfl) (fun K hK => ?_)
  go_simp
  (refine (cmpU32_any _ _ _).mono ?_; rintro e w' ⟨rfl, rfl⟩)
  go_wp2_with fail
  refine hK.out _ _ (hHeld) (fun hHeld => ?_)
  clear hK K
  try simp only [Act.put, sA, sZ, sS]
  refine stepL 14 rfl (by kernel_rfl) (fun K hK => ?_)
  go_simp
  (refine (cmpU32_any _ _ _).mono ?_; rintro e w' ⟨rfl, rfl⟩)
  go_wp2_with fail
  refine hK.out _ _ (hHeld) (fun hHeld => ?_)
  clear hK K
  try simp only [Act.put, sA, sZ, sS]
  refine stepL 15 rfl (by kernel_rfl) (fun K hK => ?_)
  go_simp
  refine hK.out _ _ ((⟨hHeld.1.alloc _, 1, _, by rw [hg.out, alloc_eq_grow, grow_grow]; rfl⟩)) (fun hHeld => ?_)
  clear hK K
  try simp only [Act.put, sA, sZ, sS]
  refine stepL 16 rfl (by kernel_rfl) (fun K hK => ?_)
  go_simp
  (refine (orInt3_any _ _ _ _ _ z _ hz (Lib.hid (Keeps.rangeAt ((Keeps.refl (fun _ => False) _).drew) (new_rangeb wB _ _) id))).mono ?_; rintro e w' ⟨rfl, rfl⟩)
  go_wp2_with fail
  refine hK.out _ _ (hHeld) (fun hHeld => ?_)
  clear hK K
  try simp only [Act.put, sA, sZ, sS]
  refine tk 17 rfl ?_
  refine wpAnyH_done (by kernel_rfl) (NoPanic.normal ?_) _
  have hh := Lib.hid hHeld
  clear hHeld
  go_wp2_with fail
  go_ret
  exact ⟨rfl, hh.out.2⟩
def cmpK (x y : K3) : Int := orI (cmpI x.1 y.1) (orI (cmpI x.2.2 y.2.2) (cmpI x.2.1 y.2.1))
theorem order_cK (x y : K3) (w : World) : Calls Try.prog 40 #[.agg (kV x).toArray, .agg (kV y).toArray] w fun e w' => e = .returned (.int .i64 (cmpK x y)) ∧ ∃ q os, w' = grow (w.drewN q) os :=
  ldOrder_c ⟨x.1, x.2.1, x.2.2⟩ ⟨y.1, y.2.1, y.2.2⟩ (cmpK x y) w (Lib.hid rfl)
theorem kV_one (x : K3) : ∀ u ∈ kV x, u.oneCell' = true := by
  intro u hu
  simp only [kV, List.mem_cons, List.not_mem_nil, or_false] at hu
  rcases hu with rfl | rfl | rfl <;> rfl
/-- the order of keys -/
def ltK (x y : K3) : Prop := x.1 < y.1 ∨ x.1 = y.1 ∧ (x.2.2 < y.2.2 ∨ x.2.2 = y.2.2 ∧ x.2.1 < y.2.1)
theorem ltK_iff (x y : K3) : ltOf cmpK x y = true ↔ ltK x y := by
  unfold ltOf cmpK orI cmpI ltK
  repeat' split
  all_goals simp
  all_goals omega
theorem swoK : SWO (ltOf cmpK) where
  irrefl x := by
    rw [Bool.eq_false_iff]
    intro h
    rw [ltK_iff] at h
    unfold ltK at h
    omega
  trans x y z h1 h2 := by
    rw [ltK_iff] at *
    unfold ltK at *
    omega
  ntrans x y z h1 h2 := by
    rw [Bool.eq_false_iff] at *
    intro h
    rw [ne_eq, ltK_iff] at h1 h2
    rw [ltK_iff] at h
    unfold ltK at *
    omega
theorem flat_rowsK (L : List K3) : flatK kV 3 L.toArray = (rowCells kV L).toArray := by
  apply Array.ext_getElem?
  intro t
  by_cases ht : t < L.length * 3
  · have h1 : (flatK kV 3 L.toArray)[t]? = some ((kV L.toArray[t / 3]!)[t % 3]!) := by
      have := get_flatK kV 3 L.toArray t (by simpa using ht)
      have h2 : t < (flatK kV 3 L.toArray).size := by simpa using ht
      rw [getElem!_pos _ t h2] at this
      rw [Array.getElem?_eq_getElem h2, this]
    rw [h1]
    have hi : t / 3 < L.length := by omega
    have hx : L[t / 3]? = some L[t / 3] := List.getElem?_eq_getElem hi
    have h3 := rowCells_get kV_len L (t / 3) _ hx (t % 3) (by omega)
    rw [show t / 3 * 3 + t % 3 = t by omega] at h3
    rw [List.getElem?_toArray, h3]
    have h4 : L.toArray[t / 3]! = L[t / 3] := by rw [getElem!_pos L.toArray (t / 3) (by simpa using hi)]; simp
    rw [h4]
    have h5 : t % 3 < (kV L[t / 3]).length := by rw [kV_len]; omega
    rw [List.getElem?_eq_getElem h5, getElem!_pos (kV L[t / 3]) (t % 3) h5]
  · rw [Array.getElem?_eq_none (by simpa using ht), Array.getElem?_eq_none (by rw [List.size_toArray, rowCells_len kV_len]; omega)]
theorem isAggK (w : World) : (isAgg (Try.sortKeysK_ren.t 24)).run Try.prog w = .ok true w := Try.isAgg25 w
theorem sizeK (w : World) : (Go.sizeOf (Try.sortKeysK_ren.t 24)).run Try.prog w = .ok 3 w := Try.sizeOf25 w
set_option maxRecDepth 100000 in
set_option maxHeartbeats 4000000 in
theorem sortKeys_any (v : Value) (L : List K3) (w0 w : World) (hO : Hid (OwnR 25 3 kV w0 w v L)) (hl : L.length ≤ 1000000) :
    Calls Try.prog 92 #[v, .func (.func 40) #[] #[]] w fun e w' => e = .returned (.tuple #[]) ∧ ∃ S, S.Perm L ∧ S.Pairwise (fun x y => ltOf cmpK y x = false) ∧ OwnR 25 3 kV w0 w' v S ∧ Keeps (fun i => v.ownBlock = some i) w w' := by
  obtain ⟨⟨hlen, hv⟩, hb, hs⟩ := hO.out
  rcases hv with ⟨rfl, h0⟩ | ⟨g, cap, cur, rfl, -, hg, hc1, hc2, hc3, hc4⟩
  · obtain rfl : L = [] := List.eq_nil_of_length_eq_zero h0
    refine (AnyF.slices_SortFunc_none Try.sortKeysK none 0 (.func (.func 40) #[] #[]) w).mono ?_
    rintro e w' ⟨rfl, rfl⟩
    exact ⟨rfl, [], List.Perm.refl _, List.Pairwise.nil, hO.out, Keeps.refl _ _⟩
  · have hat := hO.out.at kV_len
    have hgl : g < w.heap.size := lt_of_block hg
    have eg : ∀ args w, (callFunc 40 args).run Try.prog w = .ok (.enter 40 args) w := enters_of Try.func40 (by kernel_rfl) rfl
    have hH : HoldsK kV 3 w g 0 L.toArray := by
      intro j hj
      rw [flat_rowsK] at hj ⊢
      have hj2 : j < (rowCells kV L).length := by simpa using hj
      rw [Nat.zero_add]
      constructor
      · have h1 : cur[j]? = some (rowCells kV L)[j] := by
          have h2 : (cur.toList.take (L.length * 3))[j]? = (rowCells kV L)[j]? := by rw [hc4]
          rw [List.getElem?_take_of_lt (by rw [rowCells_len kV_len] at hj2; exact hj2), List.getElem?_eq_getElem hj2] at h2
          simpa using h2
        rw [cell_of_row _ _ _ _ _ _ hg, h1]
        have h3 : (rowCells kV L).toArray[j]! = (rowCells kV L)[j] := by rw [getElem!_pos (rowCells kV L).toArray j hj]; simp
        rw [h3]; rfl
      · have hB : BlkAt w g 25 cur.toList := by unfold BlkAt; simpa using hg
        exact hB.frozen j
    have hcmp : CmpLays Try.prog 40 #[] kV 3 cmpK g 0 L.toArray.size w := fun m os dk _ x y => order_cK x y _
    have hcon := AnyQ.slices_SortFunc Try.sortKeysK 3 isAggK sizeK kV kV_len kV_one cmpK swoK 40 #[] g 0 cap L.toArray w eg hcmp hH hgl (by simp; omega)
    rw [List.size_toArray] at hcon
    refine hcon.mono ?_
    rintro e w' ⟨rfl, d', n, os, hP, hSo, rfl⟩
    obtain ⟨S, rfl⟩ : ∃ S : List K3, d' = S.toArray := ⟨d'.toList, by simp⟩
    have hSp : S.Perm L := by
      obtain ⟨hsz, -, hperm⟩ := hP
      have e1 : S.toArray.extract 0 L.toArray.size = S.toArray := by rw [← hsz]; exact Array.extract_size
      rw [List.size_toArray] at e1
      rw [e1] at hperm
      have e2 : L.toArray.extract 0 L.length = L.toArray := by
        have := Array.extract_size (xs := L.toArray)
        rwa [List.size_toArray] at this
      rw [e2] at hperm
      simpa using hperm
    have hSl : S.length = L.length := hSp.length_eq
    have hSr : S.Pairwise (fun x y => ltOf cmpK y x = false) := by
      rw [List.pairwise_iff_getElem]
      intro i j hi hj hij
      have h1 := hSo i j (Nat.zero_le _) hij (by omega)
      rwa [getElem!_pos S.toArray i (by simpa using hi), getElem!_pos S.toArray j (by simpa using hj)] at h1
    clear hP hSo
    have hp : ∀ k, k < w.heap.size → (sortWorldK kV 3 w g 0 n S.toArray os).heap[k]? = (putRowK kV 3 (Sort.ahead w n) g 0 S.toArray).heap[k]? := fun k hk => by
      show ((putRowK kV 3 (Sort.ahead w n) g 0 S.toArray).heap ++ os)[k]? = _
      rw [Array.getElem?_append_left (by unfold putRowK; rw [size_putRow]; exact hk)]
    have hblk : (putRowK kV 3 (Sort.ahead w n) g 0 S.toArray).heap[g]? = some (.cells (putCells id 0 (rowCells kV S).toArray cur) 25 (0, 0)) := by
      unfold putRowK putRow mapBlock
      rw [flat_rowsK]
      show (w.heap.modify g _)[g]? = _
      rw [Array.getElem?_modify, if_pos rfl, hg]; rfl
    have hoth : ∀ k, k ≠ g → (putRowK kV 3 (Sort.ahead w n) g 0 S.toArray).heap[k]? = w.heap[k]? := fun k hk => by
      unfold putRowK putRow mapBlock
      show (w.heap.modify g _)[k]? = _
      rw [Array.getElem?_modify, if_neg (fun e => hk e.symm)]
    have hsz : w.heap.size ≤ (sortWorldK kV 3 w g 0 n S.toArray os).heap.size := by
      show _ ≤ ((putRowK kV 3 (Sort.ahead w n) g 0 S.toArray).heap ++ os).size
      rw [Array.size_append]
      unfold putRowK; rw [size_putRow]; exact Nat.le_add_right _ _
    refine ⟨rfl, S, hSp, hSr, ⟨⟨by rw [rowCells_len kV_len, hSl], .inr ⟨g, cap, putCells id 0 (rowCells kV S).toArray cur, by rw [hSl], Nat.zero_le _, by rw [hp g hgl]; exact hblk, by rw [hSl]; exact hc1, hc2, by unfold putCells; simpa using hc3, ?_⟩⟩, fun k e => hb k e, Nat.le_trans hs hsz⟩, ?_⟩
    · apply List.ext_getElem?
      intro j
      have hrl := rowCells_len kV_len S
      by_cases hj : j < S.length * 3
      · rw [List.getElem?_take_of_lt hj]
        have hj3 : j < cur.size := by rw [hc3]; rw [hSl] at hj; omega
        have h1 : (putCells id 0 (rowCells kV S).toArray cur).toList[j]? = some (if 0 ≤ j ∧ j < 0 + (rowCells kV S).toArray.size then id (rowCells kV S).toArray[j - 0]! else cur[j]) := by
          unfold putCells
          rw [Array.getElem?_toList, Array.getElem?_mapIdx, Array.getElem?_eq_getElem hj3]; rfl
        rw [h1, if_pos ⟨Nat.zero_le _, by simp; omega⟩]
        have hj4 : j < (rowCells kV S).toArray.size := by simp; omega
        rw [Nat.sub_zero, getElem!_pos (rowCells kV S).toArray j hj4, List.getElem?_eq_getElem (by omega)]
        simp
      · rw [List.getElem?_eq_none (by rw [List.length_take]; omega), List.getElem?_eq_none (by omega)]
    · exact ⟨rfl, rfl, rfl, hsz, fun k hk hn => by rw [hp k hk]; exact hoth k (fun e => hn (by rw [e]; rfl))⟩
end Go.Proofs.Ytdaongflpllfhaa
