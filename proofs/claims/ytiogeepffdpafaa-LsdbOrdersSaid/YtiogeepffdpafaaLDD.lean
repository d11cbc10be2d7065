/- lsdb.Put of bare Lsas, walked (gen_ldd.py writes this). -/
import Derived.Test.YtiogeepffdpafaaLDC
namespace Go.Proofs.Ytiogeepffdpafaa
open Go.RowKit

theorem load_ldmap (w : World) (b o : Nat) (v : Value) (h : w.cell? ⟨b, o, none⟩ = some v) : (loadVar 148 ⟨b, o, none⟩).run Try.prog w = .ok v w := by simp [go_sem, h]
theorem yieldsIf_lookup {P : Program} {ops : Array Oper} {S : World → Prop} {op : Oper} {a : Act} (hw : Region.wanted op (yielded ops a.tmps) = true) (ty : TypeId) (x k : Operand) (ho : op.op = .lookup ty x k true) (xv kv v : Value) (hx : a.eval x = xv) (hk : a.eval k = kv)
    (hS : ∀ w, S w → (Instr.lookup ty xv kv true).run P w = .ok v w) : YieldsIf P ops S op v a :=
  .inl ⟨hw, fun w hw' => by
    unfold execOp
    simp only [ho, hx, hk, Sem.run_bind, hS w hw', Result.andThen_ok]; rfl⟩
theorem wp_mapUpdate_run {P : Program} {w : World} {o : Oper} {a : Act} {K : Act → World → Prop} {Q : Exit → Act → World → Prop} (ty : TypeId) (m k x : Operand) (ho : o.op = .mapUpdate ty m k x) (mv kv xv : Value) (hm : a.eval m = mv) (hk : a.eval k = kv) (hx : a.eval x = xv)
    (w' : World) (hr : (Instr.mapUpdate ty mv kv xv).run P w = .ok () w') (h : K (a.put o.dst undef) w') : Oper.wp P o a w K Q := by
  unfold Oper.wp execOp
  simp only [ho, hm, hk, hx, Sem.run_bind, hr, Result.andThen_ok]
  exact h
theorem range_key {w : World} {g : Nat} {t : TypeId} {a b c d e f h i j : Value} (hb : BlkAt w g t [a, b, c, d, e, f, h, i, j]) : w.rangeAt g 1 [b, c, d] := fun n u hu => by
  have := hb.range (1 + n) u (by rw [Nat.add_comm]; have hn : n < 3 := (List.getElem?_eq_some_iff.1 hu).1; rcases n with _ | _ | _ | n; exact hu; exact hu; exact hu; omega)
  rw [Nat.zero_add] at this; exact this
theorem EntriesAt.set {R : Value → LsaD → Prop} : ∀ {es : List MapEntry} {L : List LsaD} (_ : EntriesAt R es L) (j : Nat) (f : MapEntry → MapEntry) (m : LsaD) (_ : ∀ e, (f e).key = keyA m.type m.id m.adv ∧ R (f e).val m), EntriesAt R (es.modify j f) (L.set j m)
  | [], [], h, j, f, m, hf => by simp [EntriesAt]
  | e :: es, o :: L, h, 0, f, m, hf => ⟨(hf e).1, (hf e).2, h.2.2⟩
  | e :: es, o :: L, h, j + 1, f, m, hf => ⟨h.1, h.2.1, EntriesAt.set h.2.2 j f m hf⟩
  | [], _ :: _, h, _, _, _, _ => h.elim
  | _ :: _, [], h, _, _, _, _ => h.elim
theorem EntriesAt.push {R : Value → LsaD → Prop} : ∀ {es : List MapEntry} {L : List LsaD} (_ : EntriesAt R es L) (e : MapEntry) (m : LsaD) (_ : e.key = keyA m.type m.id m.adv ∧ R e.val m), EntriesAt R (es ++ [e]) (L ++ [m])
  | [], [], _, e, m, hf => ⟨hf.1, hf.2, trivial⟩
  | _ :: _, _ :: _, h, e, m, hf => ⟨h.1, h.2.1, EntriesAt.push h.2.2 e m hf⟩
  | [], _ :: _, h, _, _, _ => h.elim
  | _ :: _, [], h, _, _, _ => h.elim
def lookV (L : List LsaD) (t : Int) (i a : Nat) : Value := match (posK L t i a).bind fun j => L[j]? with | some o => .tuple #[bareV o, .bool true] | none => .tuple #[zeroLsa, .bool false]
theorem DbAt.lookup {w : World} {b r : Nat} {L : List LsaD} (h : DbAt w b r L) (t : Int) (i a : Nat) : (Instr.lookup 148 (.map (some r)) (keyA t i a) true).run Try.prog w = .ok (lookV L t i a) w := by
  unfold lookV
  obtain ⟨-, es, clock, h2, h3⟩ := h
  rw [run_lookup_key r es clock L h2 h3]
  cases hp : posK L t i a with
  | none => rfl
  | some j =>
    obtain ⟨o, ho, -⟩ := posK_lt hp
    obtain ⟨e, he, -, hv⟩ := h3.get ho
    have he2 : es[j]? = some e := by simpa using he
    simp only [Option.bind_some, he2, ho]
    rw [show e.val = bareV o from hv]
theorem DbAt.store_there {w : World} {b r : Nat} {L : List LsaD} (h : DbAt w b r L) (m : LsaD) (j : Nat) (hj : posK L m.type m.id m.adv = some j) :
    ∃ w', (Instr.mapUpdate 148 (.map (some r)) (keyA m.type m.id m.adv) (bareV m)).run Try.prog w = .ok () w' ∧ DbAt w' b r (L.set j m) ∧ Keeps (fun k => k = r) w w' := by
  have hne := h.ne
  obtain ⟨h1, es, clock, h2, h3⟩ := h
  refine ⟨_, run_mapUpdate_there r es clock L h2 h3 _ _ _ _ j hj, ⟨h1.keep (mapPut_keeps _ _ _) hne, _, _, mapPut_at _ _ _ (lt_of_block h2), ?_⟩, mapPut_keeps _ _ _⟩
  rw [Array.toList_modify]
  exact h3.set j _ m (fun e => ⟨rfl, rfl⟩)
theorem DbAt.store_new {w : World} {b r : Nat} {L : List LsaD} (h : DbAt w b r L) (m : LsaD) (hj : posK L m.type m.id m.adv = none) :
    ∃ w', (Instr.mapUpdate 148 (.map (some r)) (keyA m.type m.id m.adv) (bareV m)).run Try.prog w = .ok () w' ∧ DbAt w' b r (L ++ [m]) ∧ Keeps (fun k => k = r) w w' := by
  have hne := h.ne
  obtain ⟨h1, es, clock, h2, h3⟩ := h
  refine ⟨_, run_mapUpdate_new r es clock L h2 h3 _ _ _ _ hj, ⟨h1.keep (mapPut_keeps _ _ _) hne, _, _, mapPut_at _ _ _ (lt_of_block h2), ?_⟩, mapPut_keeps _ _ _⟩
  rw [Array.toList_push]
  exact h3.push _ m ⟨rfl, rfl⟩
theorem eql_mapnil (r : Nat) (w : World) : (binOp .eql 148 (.map (some r)) (.map none)).run Try.prog w = .ok (.bool false) w := by
  simp only [binOp, Op.equal, Op.maxDepth]
  rw [show (10000 : Nat) = 9999 + 1 from rfl, Op.equalIn]
  simp [run_underlying Try.underlying148]
/-- what Put makes of a Db -/
def hA (m : LsaD) : Nat := beVal (sub (putB m) 0 2)
def newerD (m o : LsaD) : Bool := decide (cmpH (hA m) (hA o) (hdD m).seq (hdD o).seq (hdD m).sum (hdD o).sum = 1)
def putD (L : List LsaD) (m : LsaD) : Bool × Int × List LsaD := match posK L m.type m.id m.adv with
  | some j => match L[j]? with
    | some o => if newerD m o then (true, 0, L.set j m) else (false, 0, L)
    | none => (false, 0, L)
  | none => if 20 ≤ L.length then (false, 5, L) else (true, 0, L ++ [m])
theorem hd_split (m : LsaD) : ∃ (T S Ln : Int) (I V C : Nat), hdD m = ⟨(hA m : Int), T, I, V, S, C, Ln⟩ := ⟨_, _, _, _, _, _, rfl⟩
set_option maxRecDepth 100000 in
set_option maxHeartbeats 2000000 in
theorem ldPut_bare (b r : Nat) (L L' : List LsaD) (m : LsaD) (hb : Bare m) (hL : ∀ o ∈ L, Bare o ∧ hA o ≤ 3600) (hA1 : hA m ≤ 3600) (z : Bool) (q : Int) (w : World) (h : Hid (DbAt w b r L)) (hz : Hid (putD L m = (z, q, L'))) :
    Calls Try.prog 40 #[.pointer (some ⟨b, 0, none⟩), bareV m] w fun e w' => e = .returned (.tuple #[.bool z, .int .i64 q]) ∧ DbAt w' b r L' ∧ Keeps (fun k => k = r) w w' := by
  obtain ⟨T, S, Ln, I, V, C, hd⟩ := hd_split m
  have hd' := Lib.hid hd
  obtain ⟨A, hAe⟩ : ∃ A, hA m = A := ⟨_, rfl⟩
  have hAe' := Lib.hid hAe
  rw [hAe] at hd' hA1
  have hnr : Hid (¬ w.heap.size = r) := Lib.hid (by have := h.out.lt.2; omega)
  have hL' := Lib.hid hL
  clear hL hd hAe
  obtain ⟨W0, hW0⟩ : ∃ W0, W0 = w.alloc (.cells #[.int .i64 m.age, .int .i64 m.type, .int .u32 m.id, .int .u32 m.adv, .int .i64 m.seq, .slice none 0 0, .int .u32 m.mask, .slice none 0 0, .int .i64 m.cost] 36) := ⟨_, rfl⟩
  have hB : Hid (BlkAt W0 w.heap.size 36 [.int .i64 m.age, .int .i64 m.type, .int .u32 m.id, .int .u32 m.adv, .int .i64 m.seq, .slice none 0 0, .int .u32 m.mask, .slice none 0 0, .int .i64 m.cost]) := Lib.hid (by rw [hW0]; exact BlkAt.new w 36 (bareL m))
  have hK : Hid (Keeps (fun _ => False) w W0) := Lib.hid (by rw [hW0]; exact (Keeps.refl _ _).alloc _)
  have hD := Lib.hid (h.out.keep hK.out id id)
  have hW0' := Lib.hid hW0
  clear hW0 h
  unfold bareV
  go_enter Try.func40, Try.ntmps40
  go_upto_region 1 with fail
  rw [← hW0'.out]
  clear hW0'
  go_wp2_with ((with_reducible refine at_slot 11 ?_); refine wpList_load_mid rfl 36 (.tmp 3) rfl w.heap.size 0 rfl _ _ hB.out.range Try.underlying36 rfl lsaInfo ?_)
  refine (ldHeadOf_bare m hb ⟨(A : Int), T, I, V, S, C, Ln⟩ hd' _).mono ?_
  rintro e w2 ⟨rfl, k2⟩
  obtain ⟨W3, hW3⟩ : ∃ W3, W3 = w2.alloc (.cells #[.int .i64 (A : Nat), .int .i64 T, .int .u32 I, .int .u32 V, .int .i64 S, .int .u16 C, .int .i64 Ln] 45) := ⟨_, rfl⟩
  have k3 : Keeps (fun _ => False) W0 W3 := by rw [hW3]; exact k2.alloc _
  have hB3 := Lib.hid (hB.out.keep k3 id)
  have hH3 : Hid (BlkAt W3 w2.heap.size 45 [.int .i64 (A : Nat), .int .i64 T, .int .u32 I, .int .u32 V, .int .i64 S, .int .u16 C, .int .i64 Ln]) := Lib.hid (by rw [hW3]; exact BlkAt.new w2 45 [.int .i64 (A : Nat), .int .i64 T, .int .u32 I, .int .u32 V, .int .i64 S, .int .u16 C, .int .i64 Ln])
  have hD3 := Lib.hid (hD.out.keep k3 id id)
  have hK3 := Lib.hid (hK.out.trans k3)
  have hW3' := Lib.hid hW3
  clear k2 k3 hB hK hD hW3
  simp only
  go_upto_region 4 with ((with_reducible refine at_store 6 ?_); refine wpList_store_new rfl 45 (.tmp 6) (.tmp 13) rfl _ _ rfl rfl headInfo rfl (head_one _ _ _ _ _ _ _) ?_)
  rw [← hW3'.out]
  clear hW3'
  have hz0 := hz.out
  clear hz
  unfold putD at hz0
  cases hp : posK L m.type m.id m.adv with
  | some j =>
    rw [hp] at hz0
    obtain ⟨o, ho, -⟩ := posK_lt hp
    simp only [ho] at hz0
    have hlook : Hid (lookV L m.type m.id m.adv = .tuple #[bareV o, .bool true]) := Lib.hid (by unfold lookV; rw [hp]; simp only [Option.bind_some, ho])
    have hbo := (hL'.out o (List.mem_of_getElem? ho)).1
    have hAo := (hL'.out o (List.mem_of_getElem? ho)).2
    obtain ⟨T', S', Ln', I', V', C', hdo⟩ := hd_split o
    have hnw : newerD m o = decide (cmpH A (hA o) S S' C C' = 1) := by unfold newerD; rw [hdo, hd'.out, hAe'.out]
    obtain ⟨A', hA'⟩ : ∃ A', hA o = A' := ⟨_, rfl⟩
    rw [hA'] at hdo hAo hnw
    obtain ⟨y, hy⟩ : ∃ y, newerD m o = y := ⟨_, rfl⟩
    rw [hy] at hz0 hnw
    have hdo' := Lib.hid hdo; have hnw' := Lib.hid hnw.symm; have hp' := Lib.hid hp
    clear hdo hnw hp ho hA' hy
    refine wp_region_noPanic ?_
    refine wp_region_held_drew (S := (fun W => Keeps (fun _ => False) W3 W)) (by kernel_rfl) (((Keeps.refl (fun _ => False) _).drew)) (fun hHeld => ?_)
    refine takeL 0 (v := ?_) rfl (by kernel_rfl) (by kernel_rfl) (by kernel_rfl) (fun _ _ _ h => h) (Or.inl ⟨by rfl, ?_⟩) (by assumption) ?_
    rotate_left
    · (intro wS hSw; go_simp; try with_reducible rfl)
    try simp only [Act.put, List.setIfInBounds_toArray, List.set_cons_zero, List.set_cons_succ]
    refine takeL 1 (v := ?_) rfl (by kernel_rfl) (by kernel_rfl) (by kernel_rfl) (fun _ _ _ h => h) (Or.inl ⟨by rfl, ?_⟩) (by assumption) ?_
    rotate_left
    · (intro wS hSw; go_simp; try with_reducible rfl)
    try simp only [Act.put, List.setIfInBounds_toArray, List.set_cons_zero, List.set_cons_succ]
    refine takeL 2 (v := ?_) rfl (by kernel_rfl) (by kernel_rfl) (by kernel_rfl) (fun _ _ _ h => h) (Or.inl ⟨by rfl, ?_⟩) (by assumption) ?_
    rotate_left
    · (intro wS hSw; go_simp; try with_reducible rfl)
    try simp only [Act.put, List.setIfInBounds_toArray, List.set_cons_zero, List.set_cons_succ]
    refine takeL 3 rfl (by kernel_rfl) (by kernel_rfl) (by kernel_rfl) (fun _ _ _ h => h) (yieldsIf_load_cell (by rfl) 148 (.tmp 24) rfl b 0 rfl _ (fun _ s => (hD3.out.keep s id id).bl.cell 0 (.map (some r)) rfl) (fun w s => load_ldmap w _ _ _ s)) (by assumption) ?_
    try simp only [Act.put, List.setIfInBounds_toArray, List.set_cons_zero, List.set_cons_succ]
    refine takeL 4 (v := ?_) rfl (by kernel_rfl) (by kernel_rfl) (by kernel_rfl) (fun _ _ _ h => h) (Or.inl ⟨by rfl, ?_⟩) (by assumption) ?_
    rotate_left
    · (intro wS hSw; go_simp; try with_reducible rfl)
    try simp only [Act.put, List.setIfInBounds_toArray, List.set_cons_zero, List.set_cons_succ]
    refine takeL 5 rfl (by kernel_rfl) (by kernel_rfl) (by kernel_rfl) (fun _ _ _ h => h) (yieldsIf_load_mid (by rfl) 33 (.tmp 26) rfl w.heap.size 1 rfl [.int .i64 m.type, .int .u32 m.id, .int .u32 m.adv] _ (fun _ s => range_key (hB3.out.keep s id)) Try.underlying33 rfl keyInfo) (by assumption) ?_
    try simp only [Act.put, List.setIfInBounds_toArray, List.set_cons_zero, List.set_cons_succ]
    refine takeL 6 rfl (by kernel_rfl) (by kernel_rfl) (by kernel_rfl) (fun _ _ _ h => h) (yieldsIf_lookup (by rfl) 148 (.tmp 25) (.tmp 27) rfl _ _ (.tuple #[.agg #[.int .i64 o.age, .int .i64 o.type, .int .u32 o.id, .int .u32 o.adv, .int .i64 o.seq, .slice none 0 0, .int .u32 o.mask, .slice none 0 0, .int .i64 o.cost], .bool true]) rfl rfl (fun _ s => by have := (hD3.out.keep s id id).lookup m.type m.id m.adv; rw [hlook.out] at this; exact this)) (by assumption) ?_
    try simp only [Act.put, List.setIfInBounds_toArray, List.set_cons_zero, List.set_cons_succ]
    refine takeL 7 (v := ?_) rfl (by kernel_rfl) (by kernel_rfl) (by kernel_rfl) (fun _ _ _ h => h) (Or.inl ⟨by rfl, ?_⟩) (by assumption) ?_
    rotate_left
    · (intro wS hSw; go_simp; try with_reducible rfl)
    try simp only [Act.put, List.setIfInBounds_toArray, List.set_cons_zero, List.set_cons_succ]
    refine takeL 8 (v := ?_) rfl (by kernel_rfl) (by kernel_rfl) (by kernel_rfl) (fun _ _ _ h => h) (Or.inl ⟨by rfl, ?_⟩) (by assumption) ?_
    rotate_left
    · (intro wS hSw; go_simp; try with_reducible rfl)
    try simp only [Act.put, List.setIfInBounds_toArray, List.set_cons_zero, List.set_cons_succ]
    refine takeL 9 (v := ?_) rfl (by kernel_rfl) (by kernel_rfl) (by kernel_rfl) (fun _ _ _ h => h) (Or.inl ⟨by rfl, ?_⟩) (by assumption) ?_
    rotate_left
    · (intro wS hSw; go_simp; try with_reducible rfl)
    try simp only [Act.put, List.setIfInBounds_toArray, List.set_cons_zero, List.set_cons_succ]
    refine stepL 10 rfl (by kernel_rfl) (fun K hK => ?_)
    go_simp
    refine hK.out _ _ ((hHeld.alloc _)) (fun hHeld => ?_)
    clear hK K
    try simp only [Act.put, List.setIfInBounds_toArray, List.set_cons_zero, List.set_cons_succ]
    refine stepL 11 rfl (by kernel_rfl) (fun K hK => ?_)
    rw [if_pos (by rfl)]
    (refine wp_store_mid 36 (.tmp 8) (.tmp 29) rfl W3.heap.size 0 #[.int .i64 o.age, .int .i64 o.type, .int .u32 o.id, .int .u32 o.adv, .int .i64 o.seq, .slice none 0 0, .int .u32 o.mask, .slice none 0 0, .int .i64 o.cost] rfl rfl (BlkAt.there (BlkAt.new W3.drew 36 [.int .i64 0, .int .i64 0, .int .u32 0, .int .u32 0, .int .i64 0, .slice none 0 0, .int .u32 0, .slice none 0 0, .int .i64 0]) 0 9 (Nat.le_refl 9)) lsaInfo (lsa_one _ _ _ _ _ _ _ _ _ (slice_one _ _ _) (slice_one _ _ _)) ?_)
    refine hK.out _ _ ((hHeld.trans' (Keeps.setCells (F := fun k => k = W3.heap.size) (.inl rfl) _ _ _ (Keeps.refl _ _)) (fun i e => .inr (by rw [e]; exact Nat.le_refl _)))) (fun hHeld => ?_)
    clear hK K
    try simp only [Act.put, List.setIfInBounds_toArray, List.set_cons_zero, List.set_cons_succ]
    refine takeL 12 (v := ?_) rfl (by kernel_rfl) (by kernel_rfl) (by kernel_rfl) (fun _ _ _ h => h) (Or.inl ⟨by rfl, ?_⟩) (by assumption) ?_
    rotate_left
    · (intro wS hSw; go_simp; try with_reducible rfl)
    try simp only [Act.put, List.setIfInBounds_toArray, List.set_cons_zero, List.set_cons_succ]
    refine wpAnyH_done (by kernel_rfl) (NoPanic.normal ?_) _
    have hO4 : Hid (BlkAt ((W3.drew.alloc (.cells #[.int .i64 0, .int .i64 0, .int .u32 0, .int .u32 0, .int .i64 0, .slice none 0 0, .int .u32 0, .slice none 0 0, .int .i64 0] 36)).setCells W3.heap.size 0 [.int .i64 o.age, .int .i64 o.type, .int .u32 o.id, .int .u32 o.adv, .int .i64 o.seq, .slice none 0 0, .int .u32 o.mask, .slice none 0 0, .int .i64 o.cost]) W3.heap.size 36 [.int .i64 o.age, .int .i64 o.type, .int .u32 o.id, .int .u32 o.adv, .int .i64 o.seq, .slice none 0 0, .int .u32 o.mask, .slice none 0 0, .int .i64 o.cost]) := Lib.hid ((((((((((BlkAt.new W3.drew 36 [.int .i64 0, .int .i64 0, .int .u32 0, .int .u32 0, .int .i64 0, .slice none 0 0, .int .u32 0, .slice none 0 0, .int .i64 0]).set 0 _).set 1 _).set 2 _).set 3 _).set 4 _).set 5 _).set 6 _).set 7 _).set 8 _)
    have hB4 := Lib.hid (hB3.out.keep hHeld id)
    have hH4 := Lib.hid (hH3.out.keep hHeld id)
    have hD4 := Lib.hid (hD3.out.keep hHeld id id)
    have hK4 := Lib.hid (hK3.out.trans hHeld)
    clear hHeld hB3 hH3 hD3 hK3
    go_wp2_with (first | ((with_reducible refine at_slot 33 ?_); refine wpList_load_mid_gd (by rfl) 45 (.tmp 6) rfl w2.heap.size 0 rfl [.int .i64 (A : Nat), .int .i64 T, .int .u32 I, .int .u32 V, .int .i64 S, .int .u16 C, .int .i64 Ln] _ hH4.out.range Try.underlying45 rfl headInfo ?_) | ((with_reducible refine at_slot 34 ?_); refine wpList_load_mid_gd (by rfl) 36 (.tmp 8) rfl W3.heap.size 0 rfl [.int .i64 o.age, .int .i64 o.type, .int .u32 o.id, .int .u32 o.adv, .int .i64 o.seq, .slice none 0 0, .int .u32 o.mask, .slice none 0 0, .int .i64 o.cost] _ hO4.out.range Try.underlying36 rfl lsaInfo ?_))
    refine (ldIsNewer_bare A A' I V C I' V' C' T S Ln T' S' Ln' o hbo hdo' hA1 hAo y _ hnw').mono ?_
    rintro e w5 ⟨rfl, k5⟩
    have hD5 := Lib.hid (hD4.out.keep k5 id id)
    have hB5 := Lib.hid (hB4.out.keep k5 id)
    have hK5 := Lib.hid (hK4.out.trans k5)
    clear k5 hD4 hB4 hH4 hO4 hK4
    cases y with
    | false =>
      have hz1 : (false, (0 : Int), L) = (z, q, L') := hz0
      simp only [Prod.mk.injEq] at hz1
      obtain ⟨rfl, rfl, rfl⟩ := hz1
      clear hz0
      go_wp2_with fail
      go_ret2
      exact ⟨rfl, hD5.out, hK5.out.mono (fun i f => f.elim)⟩
    | true =>
      have hz1 : (true, (0 : Int), L.set j m) = (z, q, L') := hz0
      simp only [Prod.mk.injEq] at hz1
      obtain ⟨rfl, rfl, rfl⟩ := hz1
      clear hz0
      have hc := hD5.out.bl.cell 0 (.map (some r)) rfl
      have he := eql_mapnil r w5
      go_upto_region 11 with fail
      clear hc he
      refine wp_region_noPanic ?_
      refine wp_region_held_drew (S := (fun X => Keeps (fun k => k = r) w5 X)) (by kernel_rfl) (((Keeps.refl (fun k => k = r) _).drew)) (fun hHeld => ?_)
      refine takeL 0 (v := ?_) rfl (by kernel_rfl) (by kernel_rfl) (by kernel_rfl) (fun _ _ _ h => h) (Or.inl ⟨by rfl, ?_⟩) (by assumption) ?_
      rotate_left
      · (intro wS hSw; go_simp; try with_reducible rfl)
      try simp only [Act.put, List.setIfInBounds_toArray, List.set_cons_zero, List.set_cons_succ]
      refine takeL 1 (v := ?_) rfl (by kernel_rfl) (by kernel_rfl) (by kernel_rfl) (fun _ _ _ h => h) (Or.inl ⟨by rfl, ?_⟩) (by assumption) ?_
      rotate_left
      · (intro wS hSw; go_simp; try with_reducible rfl)
      try simp only [Act.put, List.setIfInBounds_toArray, List.set_cons_zero, List.set_cons_succ]
      refine takeL 2 (v := ?_) rfl (by kernel_rfl) (by kernel_rfl) (by kernel_rfl) (fun _ _ _ h => h) (Or.inl ⟨by rfl, ?_⟩) (by assumption) ?_
      rotate_left
      · (intro wS hSw; go_simp; try with_reducible rfl)
      try simp only [Act.put, List.setIfInBounds_toArray, List.set_cons_zero, List.set_cons_succ]
      refine takeL 3 rfl (by kernel_rfl) (by kernel_rfl) (by kernel_rfl) (fun _ _ _ h => h) (yieldsIf_load_cell (by rfl) 148 (.tmp 59) rfl b 0 rfl _ (fun _ s => (hD5.out.bl.keep s hD5.out.ne).cell 0 (.map (some r)) rfl) (fun w s => load_ldmap w _ _ _ s)) (by assumption) ?_
      try simp only [Act.put, List.setIfInBounds_toArray, List.set_cons_zero, List.set_cons_succ]
      refine takeL 4 (v := ?_) rfl (by kernel_rfl) (by kernel_rfl) (by kernel_rfl) (fun _ _ _ h => h) (Or.inl ⟨by rfl, ?_⟩) (by assumption) ?_
      rotate_left
      · (intro wS hSw; go_simp; try with_reducible rfl)
      try simp only [Act.put, List.setIfInBounds_toArray, List.set_cons_zero, List.set_cons_succ]
      refine takeL 5 rfl (by kernel_rfl) (by kernel_rfl) (by kernel_rfl) (fun _ _ _ h => h) (yieldsIf_load_mid (by rfl) 33 (.tmp 61) rfl w.heap.size 1 rfl [.int .i64 m.type, .int .u32 m.id, .int .u32 m.adv] _ (fun _ s => range_key (hB5.out.keep s hnr.out)) Try.underlying33 rfl keyInfo) (by assumption) ?_
      try simp only [Act.put, List.setIfInBounds_toArray, List.set_cons_zero, List.set_cons_succ]
      refine takeL 6 rfl (by kernel_rfl) (by kernel_rfl) (by kernel_rfl) (fun _ _ _ h => h) (yieldsIf_load_mid (by rfl) 36 (.tmp 3) rfl w.heap.size 0 rfl [.int .i64 m.age, .int .i64 m.type, .int .u32 m.id, .int .u32 m.adv, .int .i64 m.seq, .slice none 0 0, .int .u32 m.mask, .slice none 0 0, .int .i64 m.cost] _ (fun _ s => (hB5.out.keep s hnr.out).range) Try.underlying36 rfl lsaInfo) (by assumption) ?_
      try simp only [Act.put, List.setIfInBounds_toArray, List.set_cons_zero, List.set_cons_succ]
      refine stepL 7 rfl (by kernel_rfl) (fun K hK => ?_)
      go_simp
      (refine (ldClone_bare m _).mono ?_; rintro e wC ⟨rfl, kC⟩)
      go_wp2_with fail
      refine hK.out _ _ ((hHeld.trans (kC.mono (fun i f => f.elim)))) (fun hHeld => ?_)
      clear hK K
      try simp only [Act.put, List.setIfInBounds_toArray, List.set_cons_zero, List.set_cons_succ]
      have hDC := (hD5.out.keep ((Keeps.refl (fun _ => False) w5).drew) id id).keep kC id id
      obtain ⟨wD, hrD, hDD, hkD⟩ := hDC.store_there m j hp'.out
      refine stepL 8 rfl (by kernel_rfl) (fun K hK => ?_)
      rw [if_pos (by rfl)]
      (refine wp_mapUpdate_run 148 (.tmp 60) (.tmp 62) (.tmp 64) rfl _ _ _ rfl rfl rfl _ hrD ?_)
      refine hK.out _ _ ((hHeld.trans hkD)) (fun hHeld => ?_)
      clear hK K
      try simp only [Act.put, List.setIfInBounds_toArray, List.set_cons_zero, List.set_cons_succ]
      refine wpAnyH_done (by kernel_rfl) (NoPanic.normal ?_) _
      have hD5 := Lib.hid hDD
      have hK5 := Lib.hid (hK5.out.mono (fun i f => f.elim) |>.trans hHeld)
      clear hHeld hDD hkD hrD kC
      go_wp2_with fail
      go_ret2
      exact ⟨rfl, hD5.out, hK5.out⟩
  | none =>
    rw [hp] at hz0
    simp only at hz0
    have hlook : Hid (lookV L m.type m.id m.adv = .tuple #[zeroLsa, .bool false]) := Lib.hid (by unfold lookV; rw [hp]; rfl)
    have hp' := Lib.hid hp
    clear hp
    refine wp_region_noPanic ?_
    refine wp_region_held_drew (S := (fun W => Keeps (fun _ => False) W3 W)) (by kernel_rfl) (((Keeps.refl (fun _ => False) _).drew)) (fun hHeld => ?_)
    refine takeL 0 (v := ?_) rfl (by kernel_rfl) (by kernel_rfl) (by kernel_rfl) (fun _ _ _ h => h) (Or.inl ⟨by rfl, ?_⟩) (by assumption) ?_
    rotate_left
    · (intro wS hSw; go_simp; try with_reducible rfl)
    try simp only [Act.put, List.setIfInBounds_toArray, List.set_cons_zero, List.set_cons_succ]
    refine takeL 1 (v := ?_) rfl (by kernel_rfl) (by kernel_rfl) (by kernel_rfl) (fun _ _ _ h => h) (Or.inl ⟨by rfl, ?_⟩) (by assumption) ?_
    rotate_left
    · (intro wS hSw; go_simp; try with_reducible rfl)
    try simp only [Act.put, List.setIfInBounds_toArray, List.set_cons_zero, List.set_cons_succ]
    refine takeL 2 (v := ?_) rfl (by kernel_rfl) (by kernel_rfl) (by kernel_rfl) (fun _ _ _ h => h) (Or.inl ⟨by rfl, ?_⟩) (by assumption) ?_
    rotate_left
    · (intro wS hSw; go_simp; try with_reducible rfl)
    try simp only [Act.put, List.setIfInBounds_toArray, List.set_cons_zero, List.set_cons_succ]
    refine takeL 3 rfl (by kernel_rfl) (by kernel_rfl) (by kernel_rfl) (fun _ _ _ h => h) (yieldsIf_load_cell (by rfl) 148 (.tmp 24) rfl b 0 rfl _ (fun _ s => (hD3.out.keep s id id).bl.cell 0 (.map (some r)) rfl) (fun w s => load_ldmap w _ _ _ s)) (by assumption) ?_
    try simp only [Act.put, List.setIfInBounds_toArray, List.set_cons_zero, List.set_cons_succ]
    refine takeL 4 (v := ?_) rfl (by kernel_rfl) (by kernel_rfl) (by kernel_rfl) (fun _ _ _ h => h) (Or.inl ⟨by rfl, ?_⟩) (by assumption) ?_
    rotate_left
    · (intro wS hSw; go_simp; try with_reducible rfl)
    try simp only [Act.put, List.setIfInBounds_toArray, List.set_cons_zero, List.set_cons_succ]
    refine takeL 5 rfl (by kernel_rfl) (by kernel_rfl) (by kernel_rfl) (fun _ _ _ h => h) (yieldsIf_load_mid (by rfl) 33 (.tmp 26) rfl w.heap.size 1 rfl [.int .i64 m.type, .int .u32 m.id, .int .u32 m.adv] _ (fun _ s => range_key (hB3.out.keep s id)) Try.underlying33 rfl keyInfo) (by assumption) ?_
    try simp only [Act.put, List.setIfInBounds_toArray, List.set_cons_zero, List.set_cons_succ]
    refine takeL 6 rfl (by kernel_rfl) (by kernel_rfl) (by kernel_rfl) (fun _ _ _ h => h) (yieldsIf_lookup (by rfl) 148 (.tmp 25) (.tmp 27) rfl _ _ (.tuple #[.agg #[.int .i64 0, .int .i64 0, .int .u32 0, .int .u32 0, .int .i64 0, .slice none 0 0, .int .u32 0, .slice none 0 0, .int .i64 0], .bool false]) rfl rfl (fun _ s => by have := (hD3.out.keep s id id).lookup m.type m.id m.adv; rw [hlook.out] at this; exact this)) (by assumption) ?_
    try simp only [Act.put, List.setIfInBounds_toArray, List.set_cons_zero, List.set_cons_succ]
    refine takeL 7 (v := ?_) rfl (by kernel_rfl) (by kernel_rfl) (by kernel_rfl) (fun _ _ _ h => h) (Or.inl ⟨by rfl, ?_⟩) (by assumption) ?_
    rotate_left
    · (intro wS hSw; go_simp; try with_reducible rfl)
    try simp only [Act.put, List.setIfInBounds_toArray, List.set_cons_zero, List.set_cons_succ]
    refine takeL 8 (v := ?_) rfl (by kernel_rfl) (by kernel_rfl) (by kernel_rfl) (fun _ _ _ h => h) (Or.inl ⟨by rfl, ?_⟩) (by assumption) ?_
    rotate_left
    · (intro wS hSw; go_simp; try with_reducible rfl)
    try simp only [Act.put, List.setIfInBounds_toArray, List.set_cons_zero, List.set_cons_succ]
    refine takeL 9 (v := ?_) rfl (by kernel_rfl) (by kernel_rfl) (by kernel_rfl) (fun _ _ _ h => h) (Or.inl ⟨by rfl, ?_⟩) (by assumption) ?_
    rotate_left
    · (intro wS hSw; go_simp; try with_reducible rfl)
    try simp only [Act.put, List.setIfInBounds_toArray, List.set_cons_zero, List.set_cons_succ]
    refine stepL 10 rfl (by kernel_rfl) (fun K hK => ?_)
    go_simp
    refine hK.out _ _ ((hHeld.alloc _)) (fun hHeld => ?_)
    clear hK K
    try simp only [Act.put, List.setIfInBounds_toArray, List.set_cons_zero, List.set_cons_succ]
    refine stepL 11 rfl (by kernel_rfl) (fun K hK => ?_)
    rw [if_pos (by rfl)]
    (refine wp_store_mid 36 (.tmp 8) (.tmp 29) rfl W3.heap.size 0 #[.int .i64 0, .int .i64 0, .int .u32 0, .int .u32 0, .int .i64 0, .slice none 0 0, .int .u32 0, .slice none 0 0, .int .i64 0] rfl rfl (BlkAt.there (BlkAt.new W3.drew 36 [.int .i64 0, .int .i64 0, .int .u32 0, .int .u32 0, .int .i64 0, .slice none 0 0, .int .u32 0, .slice none 0 0, .int .i64 0]) 0 9 (Nat.le_refl 9)) lsaInfo (lsa_one _ _ _ _ _ _ _ _ _ (slice_one _ _ _) (slice_one _ _ _)) ?_)
    refine hK.out _ _ ((hHeld.trans' (Keeps.setCells (F := fun k => k = W3.heap.size) (.inl rfl) _ _ _ (Keeps.refl _ _)) (fun i e => .inr (by rw [e]; exact Nat.le_refl _)))) (fun hHeld => ?_)
    clear hK K
    try simp only [Act.put, List.setIfInBounds_toArray, List.set_cons_zero, List.set_cons_succ]
    refine takeL 12 (v := ?_) rfl (by kernel_rfl) (by kernel_rfl) (by kernel_rfl) (fun _ _ _ h => h) (Or.inl ⟨by rfl, ?_⟩) (by assumption) ?_
    rotate_left
    · (intro wS hSw; go_simp; try with_reducible rfl)
    try simp only [Act.put, List.setIfInBounds_toArray, List.set_cons_zero, List.set_cons_succ]
    refine wpAnyH_done (by kernel_rfl) (NoPanic.normal ?_) _
    have hO4 : Hid (BlkAt ((W3.drew.alloc (.cells #[.int .i64 0, .int .i64 0, .int .u32 0, .int .u32 0, .int .i64 0, .slice none 0 0, .int .u32 0, .slice none 0 0, .int .i64 0] 36)).setCells W3.heap.size 0 [.int .i64 0, .int .i64 0, .int .u32 0, .int .u32 0, .int .i64 0, .slice none 0 0, .int .u32 0, .slice none 0 0, .int .i64 0]) W3.heap.size 36 [.int .i64 0, .int .i64 0, .int .u32 0, .int .u32 0, .int .i64 0, .slice none 0 0, .int .u32 0, .slice none 0 0, .int .i64 0]) := Lib.hid ((((((((((BlkAt.new W3.drew 36 [.int .i64 0, .int .i64 0, .int .u32 0, .int .u32 0, .int .i64 0, .slice none 0 0, .int .u32 0, .slice none 0 0, .int .i64 0]).set 0 _).set 1 _).set 2 _).set 3 _).set 4 _).set 5 _).set 6 _).set 7 _).set 8 _)
    have hB4 := Lib.hid (hB3.out.keep hHeld id)
    have hH4 := Lib.hid (hH3.out.keep hHeld id)
    have hD4 := Lib.hid (hD3.out.keep hHeld id id)
    have hK4 := Lib.hid (hK3.out.trans hHeld)
    clear hHeld hB3 hH3 hD3 hK3
    obtain ⟨es, clock, hmp, hes⟩ := hD4.out.mp
    have hlen := hes.len
    rw [Array.length_toList] at hlen
    have hln := fun ty => run_len_mapd (ty := ty) hmp
    rw [hlen] at hln
    have hc := hD4.out.bl.cell 0 (.map (some r)) rfl
    obtain ⟨n, hn⟩ : ∃ n, L.length = n := ⟨_, rfl⟩
    rw [hn] at hz0 hln
    clear hmp hes hlen hn
    by_cases h20 : 20 ≤ n
    · rw [if_pos h20] at hz0
      simp only [Prod.mk.injEq] at hz0
      obtain ⟨rfl, rfl, rfl⟩ := hz0
      have h20i : (n : Int) ≥ 20 := by omega
      clear h20
      go_wp2_with fail
      go_ret2
      exact ⟨rfl, hD4.out, hK4.out.mono (fun i f => f.elim)⟩
    · rw [if_neg h20] at hz0
      simp only [Prod.mk.injEq] at hz0
      obtain ⟨rfl, rfl, rfl⟩ := hz0
      have h20i : ¬ (n : Int) ≥ 20 := by omega
      obtain ⟨w5, hw5⟩ : ∃ w5, w5 = (W3.alloc (.cells #[.int .i64 0, .int .i64 0, .int .u32 0, .int .u32 0, .int .i64 0, .slice none 0 0, .int .u32 0, .slice none 0 0, .int .i64 0] 36)).drew.setCells W3.heap.size 0 [.int .i64 0, .int .i64 0, .int .u32 0, .int .u32 0, .int .i64 0, .slice none 0 0, .int .u32 0, .slice none 0 0, .int .i64 0] := ⟨_, rfl⟩
      have hD5 : Hid (DbAt w5 b r L) := by rw [hw5]; exact hD4
      have hB5 : Hid (BlkAt w5 w.heap.size 36 [.int .i64 m.age, .int .i64 m.type, .int .u32 m.id, .int .u32 m.adv, .int .i64 m.seq, .slice none 0 0, .int .u32 m.mask, .slice none 0 0, .int .i64 m.cost]) := by rw [hw5]; exact hB4
      have hK5 : Hid (Keeps (fun _ => False) w w5) := by rw [hw5]; exact hK4
      have hc5 : w5.cell? ⟨b, 0, none⟩ = some (.map (some r)) := by rw [hw5]; exact hc
      have hln5 : ∀ ty, (Builtin.len_ #[148] ty #[.map (some r)]).run Try.prog w5 = .ok (.int .i64 n) w5 := by rw [hw5]; exact hln
      have he := eql_mapnil r w5
      rw [← hw5]
      clear h20 hw5 hO4 hH4 hD4 hB4 hK4 hc hln
      go_upto_region 11 with fail
      clear hc5 he hln5 h20i
      refine wp_region_noPanic ?_
      refine wp_region_held_drew (S := (fun X => Keeps (fun k => k = r) w5 X)) (by kernel_rfl) (((Keeps.refl (fun k => k = r) _).drew)) (fun hHeld => ?_)
      refine takeL 0 (v := ?_) rfl (by kernel_rfl) (by kernel_rfl) (by kernel_rfl) (fun _ _ _ h => h) (Or.inl ⟨by rfl, ?_⟩) (by assumption) ?_
      rotate_left
      · (intro wS hSw; go_simp; try with_reducible rfl)
      try simp only [Act.put, List.setIfInBounds_toArray, List.set_cons_zero, List.set_cons_succ]
      refine takeL 1 (v := ?_) rfl (by kernel_rfl) (by kernel_rfl) (by kernel_rfl) (fun _ _ _ h => h) (Or.inl ⟨by rfl, ?_⟩) (by assumption) ?_
      rotate_left
      · (intro wS hSw; go_simp; try with_reducible rfl)
      try simp only [Act.put, List.setIfInBounds_toArray, List.set_cons_zero, List.set_cons_succ]
      refine takeL 2 (v := ?_) rfl (by kernel_rfl) (by kernel_rfl) (by kernel_rfl) (fun _ _ _ h => h) (Or.inl ⟨by rfl, ?_⟩) (by assumption) ?_
      rotate_left
      · (intro wS hSw; go_simp; try with_reducible rfl)
      try simp only [Act.put, List.setIfInBounds_toArray, List.set_cons_zero, List.set_cons_succ]
      refine takeL 3 rfl (by kernel_rfl) (by kernel_rfl) (by kernel_rfl) (fun _ _ _ h => h) (yieldsIf_load_cell (by rfl) 148 (.tmp 59) rfl b 0 rfl _ (fun _ s => (hD5.out.bl.keep s hD5.out.ne).cell 0 (.map (some r)) rfl) (fun w s => load_ldmap w _ _ _ s)) (by assumption) ?_
      try simp only [Act.put, List.setIfInBounds_toArray, List.set_cons_zero, List.set_cons_succ]
      refine takeL 4 (v := ?_) rfl (by kernel_rfl) (by kernel_rfl) (by kernel_rfl) (fun _ _ _ h => h) (Or.inl ⟨by rfl, ?_⟩) (by assumption) ?_
      rotate_left
      · (intro wS hSw; go_simp; try with_reducible rfl)
      try simp only [Act.put, List.setIfInBounds_toArray, List.set_cons_zero, List.set_cons_succ]
      refine takeL 5 rfl (by kernel_rfl) (by kernel_rfl) (by kernel_rfl) (fun _ _ _ h => h) (yieldsIf_load_mid (by rfl) 33 (.tmp 61) rfl w.heap.size 1 rfl [.int .i64 m.type, .int .u32 m.id, .int .u32 m.adv] _ (fun _ s => range_key (hB5.out.keep s hnr.out)) Try.underlying33 rfl keyInfo) (by assumption) ?_
      try simp only [Act.put, List.setIfInBounds_toArray, List.set_cons_zero, List.set_cons_succ]
      refine takeL 6 rfl (by kernel_rfl) (by kernel_rfl) (by kernel_rfl) (fun _ _ _ h => h) (yieldsIf_load_mid (by rfl) 36 (.tmp 3) rfl w.heap.size 0 rfl [.int .i64 m.age, .int .i64 m.type, .int .u32 m.id, .int .u32 m.adv, .int .i64 m.seq, .slice none 0 0, .int .u32 m.mask, .slice none 0 0, .int .i64 m.cost] _ (fun _ s => (hB5.out.keep s hnr.out).range) Try.underlying36 rfl lsaInfo) (by assumption) ?_
      try simp only [Act.put, List.setIfInBounds_toArray, List.set_cons_zero, List.set_cons_succ]
      refine stepL 7 rfl (by kernel_rfl) (fun K hK => ?_)
      go_simp
      (refine (ldClone_bare m _).mono ?_; rintro e wC ⟨rfl, kC⟩)
      go_wp2_with fail
      refine hK.out _ _ ((hHeld.trans (kC.mono (fun i f => f.elim)))) (fun hHeld => ?_)
      clear hK K
      try simp only [Act.put, List.setIfInBounds_toArray, List.set_cons_zero, List.set_cons_succ]
      have hDC := (hD5.out.keep ((Keeps.refl (fun _ => False) w5).drew) id id).keep kC id id
      obtain ⟨wD, hrD, hDD, hkD⟩ := hDC.store_new m hp'.out
      refine stepL 8 rfl (by kernel_rfl) (fun K hK => ?_)
      rw [if_pos (by rfl)]
      (refine wp_mapUpdate_run 148 (.tmp 60) (.tmp 62) (.tmp 64) rfl _ _ _ rfl rfl rfl _ hrD ?_)
      refine hK.out _ _ ((hHeld.trans hkD)) (fun hHeld => ?_)
      clear hK K
      try simp only [Act.put, List.setIfInBounds_toArray, List.set_cons_zero, List.set_cons_succ]
      refine wpAnyH_done (by kernel_rfl) (NoPanic.normal ?_) _
      have hD5 := Lib.hid hDD
      have hK5 := Lib.hid (hK5.out.mono (fun i f => f.elim) |>.trans hHeld)
      clear hHeld hDD hkD hrD kC
      go_wp2_with fail
      go_ret2
      exact ⟨rfl, hD5.out, hK5.out⟩
end Go.Proofs.Ytiogeepffdpafaa
