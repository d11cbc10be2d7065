/- The document's Same of actions (of two that are the same); the law's from (out of RVN). -/
import Derived.Test.YtmclnamgihphcaaGreatMM19
import Derived.Deep.DeepCutAuto
set_option linter.unusedVariables false
set_option linter.unusedSimpArgs false
set_option linter.unusedVariables false
set_option linter.unusedSimpArgs false
namespace Go.Proofs.YtmclnamgihphcaaGreat
open Go.RowKit

theorem actInfo17 : (Tryz.prog.info? 43).map (·.size) = some 2 := by kernel_rfl
theorem actAll17 : ∃ i, Tryz.prog.info? 43 = some i ∧ i.zero = some (.agg #[.int .i64 0, .string ⟨#[]⟩]) ∧ i.size = 2 ∧ i.bytes = 24 := by
  have h : (Tryz.prog.info? 43).map (fun i => (i.zero, i.size, i.bytes)) = some (some (.agg #[.int .i64 0, .string ⟨#[]⟩]), 2, 24) := by kernel_rfl
  obtain ⟨i, hi, e⟩ := Option.map_eq_some_iff.1 h
  injection e with e1 e; injection e with e2 e3
  exact ⟨i, hi, e1, e2, e3⟩
theorem act_neq17 (W : World) (k : Int) (n : ByteArray) : (binOp .neq 43 (.agg #[.int .i64 k, .string n]) (.agg #[.int .i64 k, .string n])).run Tryz.prog W = .ok (.bool false) W := by go_simp
theorem guardAct17 (op : BinOp) (x y : Operand) (xs ys : Array Value) (w : World) : (eqGuard op 43 x y (.agg xs) (.agg ys)).run Tryz.prog w = .ok () w := run_eqGuard_agg w op 43 x y xs ys (by kernel_rfl)
set_option maxRecDepth 100000 in
set_option maxHeartbeats 4000000 in
theorem r17Same_refl (v u : Value) (xs : List ActD) (w : World) (hv : Hid (RowsAt 2 aVals w v xs)) (hu : Hid (RowsAt 2 aVals w u xs)) (hl : xs.length ≤ 1000000) :
    Calls Tryz.prog 9 #[v, u] w (NewRes (.bool true) w) := by
  obtain ⟨p, c, rfl⟩ := hv.out.slice
  obtain ⟨p2, c2, rfl⟩ := hu.out.slice
  go_enter Tryz.func9, Tryz.ntmps9
  go_wp2_with fail
  go_loopw [5] (fun iv wr => ∃ (k : Nat), k ≤ xs.length ∧ iv = .int .i64 k ∧ Hid (Keeps (fun _ => False) w wr)) (fun iv _ => xs.length - (intOf iv).toNat)
  case atStart => exact ⟨0, by omega, rfl, Lib.hid (Keeps.refl _ _)⟩
  case round =>
    obtain ⟨k, hk, rfl, hKw⟩ := hrel
    by_cases hlk : k < xs.length
    · obtain ⟨g, o, rfl, hrows⟩ := hv.out.open (by omega)
      obtain ⟨g2, o2, rfl, hrows2⟩ := hu.out.open (by omega)
      obtain ⟨x, hx⟩ : ∃ q, xs[k]? = some q := ⟨_, List.getElem?_eq_getElem hlk⟩
      obtain ⟨Nx, hN⟩ : ∃ N : ByteArray, N = ⟨x.name.toArray⟩ := ⟨_, rfl⟩
      have hrow : Hid (wr.rangeAt g (o + k * 2) [.int .i64 x.kind, .string Nx]) := Lib.hid (by rw [hN]; exact hKw.out.rangeAt (hrows k x hx) id)
      have hrow2 : Hid (wr.rangeAt g2 (o2 + k * 2) [.int .i64 x.kind, .string Nx]) := Lib.hid (by rw [hN]; exact hKw.out.rangeAt (hrows2 k x hx) id)
      have m1 : (0 : Int) ≤ (k : Int) := by omega
      have m2 : (k : Int) < (xs.length : Int) := by omega
      clear hrows hrows2 hN hx
      go_upto_region 6 with fail
      refine wp_region_noPanic ?_
      refine wp_region_held_drew (S := (fun W => Keeps (fun _ => False) wr W)) (by kernel_rfl) (((Keeps.refl _ _).drew)) (fun hHeld => ?_)
      refine tk 0 rfl ?_
      refine tk 1 rfl ?_
      refine tk 2 rfl ?_
      refine tkL 3 rfl (yieldsIf_load_mid (by rfl) 43 (.tmp 19) rfl g (o + k * 2) rfl [.int .i64 x.kind, .string Nx] _ (fun _ s => s.rangeAt hrow.out id) Tryz.underlying43 rfl actInfo17) ?_
      refine tk 4 rfl ?_
      refine tk 5 rfl ?_
      refine tk 6 rfl ?_
      refine tkL 7 rfl (yieldsIf_load_mid (by rfl) 43 (.tmp 23) rfl g2 (o2 + k * 2) rfl [.int .i64 x.kind, .string Nx] _ (fun _ s => s.rangeAt hrow2.out id) Tryz.underlying43 rfl actInfo17) ?_
      refine tk 8 (v := .bool false) (hy := fun wS hSw => by
        have hl := act_neq17 wS x.kind Nx
        unfold execOp
        simp only [Act.eval, Array.getD_eq_getD_getElem?, List.getElem?_toArray, List.getElem?_cons_zero, List.getElem?_cons_succ, Option.getD_some, Sem.run_bind, Sem.run_pure, Result.andThen_ok, guardAct17, hl]) rfl ?_
      refine wpAnyH_done (by kernel_rfl) (NoPanic.normal ?_) _
      have hKz := Lib.hid (hKw.out.trans hHeld)
      clear hHeld
      go_wp2_with fail
      exact ⟨⟨k + 1, by omega, by go_num, hKz⟩, by simp [intOf]; omega⟩
    · obtain rfl : k = xs.length := by omega
      go_wp2_with fail
      go_ret
      exact ⟨rfl, hKw.out⟩

def ARes17 (fs : List ActD) (w : World) (e : Ending) (w' : World) : Prop :=
  ∃ p c, e = .returned (.slice p fs.length c) ∧ OwnR 43 2 aVals w w' (.slice p fs.length c) fs ∧ Keeps (fun _ => False) w w'
set_option maxRecDepth 100000 in
set_option maxHeartbeats 4000000 in
theorem from17_any (v : Value) (F : List ActD) (w : World) (hv : Hid (RowsAt 2 aVals w v F)) (hl : F.length ≤ 1000000) :
    Calls Tryz.prog 10 #[v] w (ARes17 F w) := by
  obtain ⟨p, c, rfl⟩ := hv.out.slice
  obtain ⟨i0, hi0, hi1, hi2, hi3⟩ := actAll17
  go_enter Tryz.func10, Tryz.ntmps10
  go_wp2_with fail
  go_loopw [4, 3] (fun iv ov wr => ∃ (k : Nat) (qa : Option Addr) (dd : Nat), k ≤ F.length ∧ iv = .int .i64 k ∧ ov = .slice qa k dd ∧ Hid (OwnR 43 2 aVals w wr ov (F.take k)) ∧ Hid (Keeps (fun _ => False) w wr)) (fun iv _ _ => F.length - (intOf iv).toNat)
  case atStart => exact ⟨0, none, 0, by omega, rfl, rfl, Lib.hid (OwnR.nil _ _ (Nat.le_refl _)), Lib.hid (Keeps.refl _ _)⟩
  case round =>
    obtain ⟨k, qa, dd, hk, rfl, rfl, hO, hKw⟩ := hrel
    by_cases hlk : k < F.length
    · obtain ⟨g, o, rfl, hrows⟩ := hv.out.open (by omega)
      obtain ⟨f, hq⟩ : ∃ q, F[k]? = some q := ⟨_, List.getElem?_eq_getElem hlk⟩
      obtain ⟨N, hN⟩ : ∃ N : ByteArray, N = ⟨f.name.toArray⟩ := ⟨_, rfl⟩
      have hrow : Hid (wr.rangeAt g (o + k * 2) [.int .i64 f.kind, .string N]) := Lib.hid (by rw [hN]; exact hKw.out.rangeAt (hrows k f hq) id)
      have hgw : Hid (¬ w.heap.size ≤ g) := Lib.hid (by have := World.block_lt_of_cell? w _ (hrows k f hq 0 _ rfl); have h3 : g < w.heap.size := this; omega)
      have hqd : Hid (f = ⟨f.kind, N.data.toList⟩) := Lib.hid (by rw [hN])
      have hstep : Hid (F.take (k + 1) = F.take k ++ [f]) := Lib.hid (by
        obtain ⟨h2, e⟩ := List.getElem?_eq_some_iff.1 hq
        rw [List.take_succ_eq_append_getElem h2, e])
      have htk : Hid ((F.take k).length = k) := Lib.hid (by rw [List.length_take]; omega)
      have m1 : (0 : Int) ≤ (k : Int) := by omega
      have m2 : (k : Int) < (F.length : Int) := by omega
      clear hrows hN hq
      go_upto_region 5 with fail
      refine wp_region_noPanic ?_
      refine wp_region_held_drew (S := (fun W => Keeps (fun i => w.heap.size ≤ i) wr W)) (by kernel_rfl) (((Keeps.refl _ _).drew)) (fun hHeld => ?_)
      refine tk 0 rfl ?_
      refine tk 1 rfl ?_
      refine tk 2 rfl ?_
      refine tk 3 rfl ?_
      refine tk 4 rfl ?_
      refine tkL 5 rfl (yieldsIf_load_cell (by rfl) 3 (.tmp 15) rfl g (o + k * 2 + 0) rfl _ (fun _ s => s.rangeAt hrow.out hgw.out 0 _ rfl) (fun w s => load_int w _ _ _ s)) ?_
      refine tk 6 rfl ?_
      refine tk 7 rfl ?_
      refine tk 8 rfl ?_
      refine tk 9 rfl ?_
      refine tkL 10 rfl (yieldsIf_load_cell (by rfl) 9 (.tmp 20) rfl g (o + k * 2 + 1) rfl _ (fun _ s => s.rangeAt hrow.out hgw.out 1 _ rfl) (fun w s => load_str w _ _ _ s)) ?_
      refine tk 11 rfl ?_
      refine stepL 12 rfl (by kernel_rfl) (fun K hK => ?_)
      go_simp
      refine hK.out _ _ ((hHeld.alloc _)) (fun hHeld => ?_)
      clear hK K
      try simp only [Act.put, sA, sZ, sS]
      refine stepL 13 rfl (by kernel_rfl) (fun K hK => ?_)
      rw [if_pos (by rfl)]
      (refine wp_append_r (.tmp 11) (.tmp 23) 31 43 rfl i0 _ 24 Tryz.underlying31 hi0 hi1 hi2 hi3 rfl (by decide) (by decide) aVals_len w _ k (F.take k) htk.out rfl (hO.out.keep (((Keeps.refl (fun _ => False) _).drew).alloc _) (fun _ _ f => f)) _ rfl ⟨f.kind, N.data.toList⟩ (cells_new rfl _ _) (aVals_one _) (by omega) ?_; intro q8 d8 w8 hO8 hg8; have hO8' := Lib.hid hO8; have hK8 := Lib.hid (OwnR.keeps (hO.out.keep (((Keeps.refl (fun _ => False) _).drew).alloc _) (fun _ _ f => f)) ((hKw.out.drew).alloc _) hg8); have hg8' := Lib.hid (hg8.k.mono (G := fun i => w.heap.size ≤ i) (fun i e => .inl (hO.out.2.1 i e))); clear hO8 hg8)
      refine hK.out _ _ ((hHeld.trans hg8'.out)) (fun hHeld => ?_)
      clear hK K
      try simp only [Act.put, sA, sZ, sS]
      refine tk 14 rfl ?_
      refine wpAnyH_done (by kernel_rfl) (NoPanic.normal ?_) _
      clear hHeld hg8'
      go_wp2_with fail
      exact ⟨⟨k + 1, q8, d8, by omega, by go_num, rfl, by rw [hstep.out, hqd.out]; exact hO8', hK8⟩, by simp [intOf]; omega⟩
    · obtain rfl : k = F.length := by omega
      rw [List.take_length] at hO
      go_wp2_with fail
      go_ret
      exact ⟨_, _, rfl, hO.out, hKw.out⟩
end Go.Proofs.YtmclnamgihphcaaGreat
/- plan.Begins, walked. -/
set_option linter.unusedVariables false
set_option linter.unusedSimpArgs false
namespace Go.Proofs.YtmclnamgihphcaaGreat
open Go.RowKit

theorem ret_cell {P : Program} {fn : Func} {p : Tmp} {ty : TypeId} (h : fn.results = #[.cell p ty]) (tmps : Array Value) (w : World) (b : Nat) (cs : List Value) (d : TypeDesc) (hp : tmps.getD p undef = .pointer (some ⟨b, 0, none⟩))
    (hc : w.rangeAt b 0 cs) (hu : P.underlying ty = some d) (hd : d.isRow = true) (hi : (P.info? ty).map (·.size) = some cs.length) : (results fn tmps).run P w = .ok (.agg cs.toArray) w := by
  have hl := run_loadVar_mid w b 0 ty cs d hc hu hd hi
  have hp' : tmps[p]?.getD undef = .pointer (some ⟨b, 0, none⟩) := by simpa using hp
  simp only [results, h]
  simp [Sem.run_bind, Result.andThen, hp', asAddr, hl]
def resetsC (L : List ActD) : List (List UInt8) := L.flatMap (fun a => if a.kind = 5 then [a.name] else [])
def restartsC (L : List ActD) : List (List UInt8) := L.flatMap (fun a => if a.kind = 3 ∨ a.kind = 4 then [a.name] else [])
def wholeK (L : List ActD) : Bool := L.any (fun a => decide (a.kind = 1))
theorem OwnR.ne_blkB {α : Type} {t sz : Nat} {cv : α → List Value} {w0 w : World} {v : Value} {xs : List α} (h : OwnR t sz cv w0 w v xs) {B : Nat} {t2 : TypeId} {cs : List Value} (hb : BlkAt w B t2 cs) (hne : t ≠ t2) : ∀ k, v.ownBlock = some k → k ≠ B := fun k e e2 => by
  subst e2
  rcases h.1.2 with ⟨e1, -⟩ | ⟨g, cap, cur, e1, -, hg, -⟩
  · rw [e1] at e; simp [Value.ownBlock] at e
  · rw [e1] at e
    simp only [Value.ownBlock, Option.some.injEq] at e
    subst e
    unfold BlkAt at hb
    rw [hg] at hb
    injection hb with hb
    injection hb with h1 h2
    exact hne h2
/-- what Begins holds on the way -/
structure BegS (w0 W : World) (B : Nat) (rs rt : Value) (R T : List (List UInt8)) (z : Bool) : Prop where
  b : BlkAt W B 40 [rs, rt, .bool z]
  r : OwnR 9 1 nv1 w0 W rs R
  t : OwnR 9 1 nv1 w0 W rt T
  ne : ∀ k, rs.ownBlock = some k → rt.ownBlock ≠ some k
  rb : ∀ k, rs.ownBlock = some k → k ≠ B
  tb : ∀ k, rt.ownBlock = some k → k ≠ B
  k : Keeps (fun _ => False) w0 W
  h : w0.heap.size ≤ B
theorem BegS.next {w0 W W' : World} {B : Nat} {rs rt : Value} {R T : List (List UInt8)} {z : Bool} (s : BegS w0 W B rs rt R T z) (k : Keeps (fun _ => False) W W') : BegS w0 W' B rs rt R T z :=
  ⟨s.b.keep k id, s.r.keep k (fun _ _ f => f), s.t.keep k (fun _ _ f => f), s.ne, s.rb, s.tb, s.k.trans k, s.h⟩
theorem own_ltS {w0 w : World} {v : Value} {xs : List (List UInt8)} (h : OwnR 9 1 nv1 w0 w v xs) (k : Nat) (e : v.ownBlock = some k) : k < w.heap.size := h.own_ltP k e
theorem BegS.whole {w0 W : World} {B : Nat} {rs rt : Value} {R T : List (List UInt8)} {z : Bool} (s : BegS w0 W B rs rt R T z) : BegS w0 (W.setCell ⟨B, 2, none⟩ (.bool true)) B rs rt R T true := by
  have kq : Keeps (fun i => i = B) W (W.setCell ⟨B, 2, none⟩ (.bool true)) := Keeps.setCell (F := fun i => i = B) (Keeps.refl _ _) (p := ⟨B, 2, none⟩) (.inl rfl) _
  exact ⟨s.b.set 2 _, s.r.keep kq (fun k e f => s.rb k e f), s.t.keep kq (fun k e f => s.tb k e f), s.ne, s.rb, s.tb, s.k.trans' kq (fun i e => .inr (by rw [e]; exact s.h)), s.h⟩
theorem BegS.lt {w0 W : World} {B : Nat} {rs rt : Value} {R T : List (List UInt8)} {z : Bool} (s : BegS w0 W B rs rt R T z) : B < W.heap.size := lt_of_block s.b
/-- a restart more -/
theorem BegS.more1 {w0 W W' : World} {B : Nat} {rs rt : Value} {R T : List (List UInt8)} {z : Bool} {p : Option Addr} {n c : Nat} {x : List UInt8} (s : BegS w0 W B rs rt R T z) (ho : OwnR 9 1 nv1 w0 W' (.slice p n c) (T ++ [x])) (g : Grown W rt p n c W') : BegS w0 (W'.setCell ⟨B, 1, none⟩ (.slice p n c)) B rs (.slice p n c) R (T ++ [x]) z := by
  have kq : Keeps (fun i => i = B) W' (W'.setCell ⟨B, 1, none⟩ (.slice p n c)) := Keeps.setCell (F := fun i => i = B) (Keeps.refl _ _) (p := ⟨B, 1, none⟩) (.inl rfl) _
  have hb := s.b.keep g.k (fun e => s.tb B e rfl)
  have hn : ∀ k, (Value.slice p n c).ownBlock = some k → k ≠ B := fun k e => by
    rcases g.s k e with e2 | e2
    · exact s.tb k e2
    · have := s.lt; omega
  have hr := s.r.keep g.k (fun k e f => s.ne k e f)
  refine ⟨hb.set 1 _, hr.keep kq (fun k e f => s.rb k e f), ho.keep kq (fun k e f => hn k e f), fun k e f => ?_, s.rb, hn, (s.t.keeps s.k g).trans' kq (fun i e => .inr (by rw [e]; exact s.h)), s.h⟩
  rcases g.s k f with e2 | e2
  · exact s.ne k e e2
  · have := own_ltS s.r k e; omega
/-- a reset more -/
theorem BegS.more0 {w0 W W' : World} {B : Nat} {rs rt : Value} {R T : List (List UInt8)} {z : Bool} {p : Option Addr} {n c : Nat} {x : List UInt8} (s : BegS w0 W B rs rt R T z) (ho : OwnR 9 1 nv1 w0 W' (.slice p n c) (R ++ [x])) (g : Grown W rs p n c W') : BegS w0 (W'.setCell ⟨B, 0, none⟩ (.slice p n c)) B (.slice p n c) rt (R ++ [x]) T z := by
  have kq : Keeps (fun i => i = B) W' (W'.setCell ⟨B, 0, none⟩ (.slice p n c)) := Keeps.setCell (F := fun i => i = B) (Keeps.refl _ _) (p := ⟨B, 0, none⟩) (.inl rfl) _
  have hb := s.b.keep g.k (fun e => s.rb B e rfl)
  have hn : ∀ k, (Value.slice p n c).ownBlock = some k → k ≠ B := fun k e => by
    rcases g.s k e with e2 | e2
    · exact s.rb k e2
    · have := s.lt; omega
  have hr := s.t.keep g.k (fun k e f => s.ne k f e)
  refine ⟨hb.set 0 _, ho.keep kq (fun k e f => hn k e f), hr.keep kq (fun k e f => s.tb k e f), fun k e f => ?_, hn, s.tb, (s.r.keeps s.k g).trans' kq (fun i e => .inr (by rw [e]; exact s.h)), s.h⟩
  rcases g.s k e with e2 | e2
  · exact s.ne k e2 f
  · have := own_ltS s.t k f; omega
theorem nv1_one (x : List UInt8) : ∀ u ∈ nv1 x, u.oneCell' = true := by
  intro u hu
  simp only [nv1, List.mem_cons, List.not_mem_nil, or_false] at hu
  subst hu; rfl
theorem restInfo : (Tryz.prog.info? 40).map (·.size) = some 3 := by kernel_rfl
def BegRes (L : List ActD) (w : World) (e : Ending) (w' : World) : Prop :=
  ∃ p c q d, e = .returned (.agg #[.slice p (resetsC L).length c, .slice q (restartsC L).length d, .bool (wholeK L)]) ∧ RowsAt 1 nv1 w' (.slice p (resetsC L).length c) (resetsC L) ∧ RowsAt 1 nv1 w' (.slice q (restartsC L).length d) (restartsC L) ∧ Keeps (fun _ => False) w w'
set_option maxRecDepth 100000 in
set_option maxHeartbeats 8000000 in
theorem plBegins_any (v : Value) (L : List ActD) (w : World) (hv : Hid (RowsAt 2 aVals w v L)) (hl : L.length ≤ 1000000) :
    Calls Tryz.prog 13 #[v] w (BegRes L w) := by
  obtain ⟨p, c, rfl⟩ := hv.out.slice
  obtain ⟨i0, hi0, hi1, hi2, hi3⟩ := strAll
  go_enter Tryz.func13, Tryz.ntmps13
  go_wp2_with fail
  have hA0 : Hid (BlkAt ((w.alloc (.cells #[.slice none 0 0, .slice none 0 0, .bool false] 40)).alloc (.cells #[.slice none 0 0, .slice none 0 0, .bool false] 40)) w.heap.size 40 [.slice none 0 0, .slice none 0 0, .bool false]) := Lib.hid ((BlkAt.new w 40 [.slice none 0 0, .slice none 0 0, .bool false]).alloc _)
  have hS0 : Hid (BegS w ((w.alloc (.cells #[.slice none 0 0, .slice none 0 0, .bool false] 40)).alloc (.cells #[.slice none 0 0, .slice none 0 0, .bool false] 40)) (w.heap.size + 1) (.slice none 0 0) (.slice none 0 0) [] [] false) := Lib.hid (by
    have hb := BlkAt.new (w.alloc (.cells #[.slice none 0 0, .slice none 0 0, .bool false] 40)) 40 [.slice none 0 0, .slice none 0 0, .bool false]
    rw [alloc_size] at hb
    have hk : Keeps (fun _ => False) w ((w.alloc (.cells #[.slice none 0 0, .slice none 0 0, .bool false] 40)).alloc (.cells #[.slice none 0 0, .slice none 0 0, .bool false] 40)) := ((Keeps.refl _ _).alloc _).alloc _
    exact ⟨hb, OwnR.nil _ _ hk.size, OwnR.nil _ _ hk.size, fun k e => by simp [Value.ownBlock] at e, fun k e => by simp [Value.ownBlock] at e, fun k e => by simp [Value.ownBlock] at e, hk, Nat.le_succ _⟩)
  generalize hw1 : (w.alloc (.cells #[.slice none 0 0, .slice none 0 0, .bool false] 40)).alloc (.cells #[.slice none 0 0, .slice none 0 0, .bool false] 40) = w1 at hA0 hS0 ⊢
  generalize hbs : w.heap.size + 1 = bs at hS0 ⊢
  generalize hba : w.heap.size = ba at hA0 ⊢
  have hne : Hid (¬ ba = bs) := Lib.hid (by omega)
  have hbb : Hid (w.heap.size ≤ ba) := Lib.hid (by omega)
  clear hw1 hbs hba
  go_loopw [8] (fun iv wr => ∃ (k : Nat) (rp tp : Option Addr) (rn tn : Nat), k ≤ L.length ∧ iv = .int .i64 k ∧ Hid (BegS w wr bs (.slice rp (resetsC (L.take k)).length rn) (.slice tp (restartsC (L.take k)).length tn) (resetsC (L.take k)) (restartsC (L.take k)) (wholeK (L.take k))) ∧ Hid (BlkAt wr ba 40 [.slice none 0 0, .slice none 0 0, .bool false])) (fun iv _ => L.length - (intOf iv).toNat)
  case atStart => exact ⟨0, none, none, 0, 0, by omega, rfl, hS0, hA0⟩
  case round =>
    obtain ⟨k, rp, tp, rn, tn, hk, rfl, hS, hA⟩ := hrel
    clear hS0 hA0
    by_cases hlk : k < L.length
    · obtain ⟨g, o, rfl, hrows⟩ := hv.out.open (by omega)
      obtain ⟨a, ha⟩ : ∃ a, L[k]? = some a := ⟨_, List.getElem?_eq_getElem hlk⟩
      obtain ⟨N, hN⟩ : ∃ N : ByteArray, N = ⟨a.name.toArray⟩ := ⟨_, rfl⟩
      have hrow : Hid (wr.rangeAt g (o + k * 2) [.int .i64 a.kind, .string N]) := Lib.hid (by rw [hN]; exact hS.out.k.rangeAt (hrows k a ha) id)
      have hr5 : Hid (resetsC (L.take (k + 1)) = resetsC (L.take k) ++ (if a.kind = 5 then [N.data.toList] else [])) := Lib.hid (by unfold resetsC; rw [flat_take _ ha, hN])
      have hr34 : Hid (restartsC (L.take (k + 1)) = restartsC (L.take k) ++ (if a.kind = 3 ∨ a.kind = 4 then [N.data.toList] else [])) := Lib.hid (by unfold restartsC; rw [flat_take _ ha, hN])
      have hw1 : Hid (wholeK (L.take (k + 1)) = (wholeK (L.take k) || decide (a.kind = 1))) := Lib.hid (by unfold wholeK; rw [List.take_add_one, ha, List.any_append]; simp)
      have hl1 : (resetsC (L.take k)).length ≤ k := by
        have := flat_len (f := fun a : ActD => if a.kind = 5 then [a.name] else []) (fun x => by split <;> simp) (L.take k)
        rw [List.length_take] at this
        exact Nat.le_trans this (Nat.min_le_left _ _)
      have hl2 : (restartsC (L.take k)).length ≤ k := by
        have := flat_len (f := fun a : ActD => if a.kind = 3 ∨ a.kind = 4 then [a.name] else []) (fun x => by split <;> simp) (L.take k)
        rw [List.length_take] at this
        exact Nat.le_trans this (Nat.min_le_left _ _)
      generalize a.kind = kd at hrow hr5 hr34 hw1
      generalize resetsC (L.take k) = R at hS hr5 hl1
      generalize restartsC (L.take k) = T at hS hr34 hl2
      generalize wholeK (L.take k) = z at hS hw1
      have hRT : Hid (R.length ≤ 1000000 ∧ T.length ≤ 1000000) := Lib.hid ⟨by omega, by omega⟩
      have hSx := Lib.hid (hS.out.next ((Keeps.refl (fun _ => False) wr).alloc (.cells #[.int .i64 kd, .string N] 53)))
      have hAx := Lib.hid (hA.out.alloc (.cells #[.int .i64 kd, .string N] 53))
      have hBx : Hid (BlkAt (wr.alloc (.cells #[.int .i64 kd, .string N] 53)) wr.heap.size 53 [.int .i64 kd, .string N]) := Lib.hid (BlkAt.new _ _ _)
      have q1 : (0 : Int) ≤ (k : Int) := by omega
      have q2 : (k : Int) < (L.length : Int) := by omega
      clear hrows hN ha hS hA hl1 hl2
      go_upto_region 5 with (first | ((with_reducible refine at_slot 11 ?_); refine wpList_load_mid rfl 53 (.tmp 10) rfl g (o + k * 2) rfl [.int .i64 kd, .string N] _ hrow.out Tryz.underlying53 rfl actInfo ?_) | ((with_reducible refine at_store 5 ?_); refine wpList_store_new rfl 53 (.tmp 5) (.tmp 11) rfl _ #[.int .i64 kd, .string N] rfl rfl actInfo rfl (by simp; exact ⟨rfl, rfl⟩) ?_))
      generalize hgx : wr.heap.size = gx at hBx ⊢
      generalize hWx : wr.alloc (.cells #[.int .i64 kd, .string N] 53) = Wx at hBx hSx hAx ⊢
      clear hgx hWx hrow
      have c0 : Wx.cell? ⟨gx, 0, none⟩ = some (.int .i64 kd) := hBx.out.cell 0 _ rfl
      have c1 : Wx.cell? ⟨gx, 1, none⟩ = some (.string N) := hBx.out.cell 1 _ rfl
      have d0 : Wx.cell? ⟨bs, 0, none⟩ = some (.slice rp R.length rn) := hSx.out.b.cell 0 _ rfl
      have d1 : Wx.cell? ⟨bs, 1, none⟩ = some (.slice tp T.length tn) := hSx.out.b.cell 1 _ rfl
      have d2 : Wx.cell? ⟨bs, 2, none⟩ = some (.bool z) := hSx.out.b.cell 2 _ rfl
      have g2 : Wx.frozen? ⟨bs, 2, none⟩ = false := hSx.out.b.frozen 2
      have hSy := Lib.hid (hSx.out.next ((Keeps.refl (fun _ => False) Wx).alloc (.cells #[.string N] 9)))
      have hAy := Lib.hid (hAx.out.alloc (.cells #[.string N] 9))
      by_cases k1 : kd = 1
      · have e1 : (kd == 1) = true := by simp [k1]
        have f5 : Hid (resetsC (L.take (k + 1)) = R) := Lib.hid (by rw [hr5.out, if_neg (by omega), List.append_nil])
        have f34 : Hid (restartsC (L.take (k + 1)) = T) := Lib.hid (by rw [hr34.out, if_neg (by omega), List.append_nil])
        have fw : Hid (wholeK (L.take (k + 1)) = true) := Lib.hid (by rw [hw1.out, decide_eq_true k1]; simp)
        have hS9 := Lib.hid hSx.out.whole
        have hA9 : Hid (BlkAt (Wx.setCell ⟨bs, 2, none⟩ (.bool true)) ba 40 [.slice none 0 0, .slice none 0 0, .bool false]) := Lib.hid (hAx.out.keep (Keeps.setCell (F := fun i => i = bs) (Keeps.refl _ _) (p := ⟨bs, 2, none⟩) (.inl rfl) _) hne.out)
        clear hr5 hr34 hw1 k1 hSx hAx hSy hAy hBx
        go_wp2_with fail
        exact ⟨⟨k + 1, rp, tp, rn, tn, by omega, by go_num, by rw [f5.out, f34.out, fw.out]; exact hS9, hA9⟩, by simp [intOf]; omega⟩
      have e1 : (kd == 1) = false := by simp [k1]
      have fw : Hid (wholeK (L.take (k + 1)) = z) := Lib.hid (by rw [hw1.out, decide_eq_false k1]; simp)
      by_cases k3 : kd = 3
      · have e3 : (kd == 3) = true := by simp [k3]
        have f5 : Hid (resetsC (L.take (k + 1)) = R) := Lib.hid (by rw [hr5.out, if_neg (by omega), List.append_nil])
        have f34 : Hid (restartsC (L.take (k + 1)) = T ++ [N.data.toList]) := Lib.hid (by rw [hr34.out, if_pos (by omega)])
        clear hr5 hr34 hw1 k1 k3 hSx hAx hBx
        go_wp2_with ((with_reducible refine at_slot 25 ?_); go_must (refine wpList_append_r rfl (.tmp 21) (.tmp 24) 38 9 rfl i0 _ 16 Tryz.underlying38 hi0 hi1 hi2 hi3 rfl (by decide) (by decide) nv1_len w _ T.length T rfl rfl hSy.out.t _ rfl N.data.toList (cells_new rfl [.string N] _) (nv1_one _) (by have := hRT.out; omega) ?_); intro q8 d8 w8 hO8 hg8; have hb8 := hSy.out.b.keep hg8.out.k (fun e => hSy.out.tb bs e rfl); have c8 : w8.cell? ⟨bs, 1, none⟩ = some (.slice tp T.length tn) := hb8.cell 1 _ rfl; have f8 : w8.frozen? ⟨bs, 1, none⟩ = false := hb8.frozen 1; clear hb8)
        have hS9 := Lib.hid (hSy.out.more1 hO8.out hg8.out)
        have hA9 : Hid (BlkAt (w8.setCell ⟨bs, 1, none⟩ (.slice q8 (T.length + 1) d8)) ba 40 [.slice none 0 0, .slice none 0 0, .bool false]) := Lib.hid ((hAy.out.keep hg8.out.k (fun e => hSy.out.t.ne_blkB hAy.out (by decide) ba e rfl)).keep (Keeps.setCell (F := fun i => i = bs) (Keeps.refl _ _) (p := ⟨bs, 1, none⟩) (.inl rfl) _) hne.out)
        exact ⟨⟨k + 1, rp, q8, rn, d8, by omega, by go_num, by rw [f5.out, f34.out, fw.out, List.length_append]; exact hS9, hA9⟩, by simp [intOf]; omega⟩
      have e3 : (kd == 3) = false := by simp [k3]
      by_cases k4 : kd = 4
      · have e4 : (kd == 4) = true := by simp [k4]
        have f5 : Hid (resetsC (L.take (k + 1)) = R) := Lib.hid (by rw [hr5.out, if_neg (by omega), List.append_nil])
        have f34 : Hid (restartsC (L.take (k + 1)) = T ++ [N.data.toList]) := Lib.hid (by rw [hr34.out, if_pos (by omega)])
        clear hr5 hr34 hw1 k1 k3 k4 hSx hAx hBx
        go_wp2_with ((with_reducible refine at_slot 25 ?_); go_must (refine wpList_append_r rfl (.tmp 21) (.tmp 24) 38 9 rfl i0 _ 16 Tryz.underlying38 hi0 hi1 hi2 hi3 rfl (by decide) (by decide) nv1_len w _ T.length T rfl rfl hSy.out.t _ rfl N.data.toList (cells_new rfl [.string N] _) (nv1_one _) (by have := hRT.out; omega) ?_); intro q8 d8 w8 hO8 hg8; have hb8 := hSy.out.b.keep hg8.out.k (fun e => hSy.out.tb bs e rfl); have c8 : w8.cell? ⟨bs, 1, none⟩ = some (.slice tp T.length tn) := hb8.cell 1 _ rfl; have f8 : w8.frozen? ⟨bs, 1, none⟩ = false := hb8.frozen 1; clear hb8)
        have hS9 := Lib.hid (hSy.out.more1 hO8.out hg8.out)
        have hA9 : Hid (BlkAt (w8.setCell ⟨bs, 1, none⟩ (.slice q8 (T.length + 1) d8)) ba 40 [.slice none 0 0, .slice none 0 0, .bool false]) := Lib.hid ((hAy.out.keep hg8.out.k (fun e => hSy.out.t.ne_blkB hAy.out (by decide) ba e rfl)).keep (Keeps.setCell (F := fun i => i = bs) (Keeps.refl _ _) (p := ⟨bs, 1, none⟩) (.inl rfl) _) hne.out)
        exact ⟨⟨k + 1, rp, q8, rn, d8, by omega, by go_num, by rw [f5.out, f34.out, fw.out, List.length_append]; exact hS9, hA9⟩, by simp [intOf]; omega⟩
      have e4 : (kd == 4) = false := by simp [k4]
      have f34 : Hid (restartsC (L.take (k + 1)) = T) := Lib.hid (by rw [hr34.out, if_neg (by omega), List.append_nil])
      by_cases k5 : kd = 5
      · have e5 : (kd == 5) = true := by simp [k5]
        have f5 : Hid (resetsC (L.take (k + 1)) = R ++ [N.data.toList]) := Lib.hid (by rw [hr5.out, if_pos k5])
        clear hr5 hr34 hw1 k1 k3 k4 k5 hSx hAx hBx
        go_wp2_with ((with_reducible refine at_slot 34 ?_); go_must (refine wpList_append_r rfl (.tmp 30) (.tmp 33) 38 9 rfl i0 _ 16 Tryz.underlying38 hi0 hi1 hi2 hi3 rfl (by decide) (by decide) nv1_len w _ R.length R rfl rfl hSy.out.r _ rfl N.data.toList (cells_new rfl [.string N] _) (nv1_one _) (by have := hRT.out; omega) ?_); intro q8 d8 w8 hO8 hg8; have hb8 := hSy.out.b.keep hg8.out.k (fun e => hSy.out.rb bs e rfl); have c8 : w8.cell? ⟨bs, 0, none⟩ = some (.slice rp R.length rn) := hb8.cell 0 _ rfl; have f8 : w8.frozen? ⟨bs, 0, none⟩ = false := hb8.frozen 0; clear hb8)
        have hS9 := Lib.hid (hSy.out.more0 hO8.out hg8.out)
        have hA9 : Hid (BlkAt (w8.setCell ⟨bs, 0, none⟩ (.slice q8 (R.length + 1) d8)) ba 40 [.slice none 0 0, .slice none 0 0, .bool false]) := Lib.hid ((hAy.out.keep hg8.out.k (fun e => hSy.out.r.ne_blkB hAy.out (by decide) ba e rfl)).keep (Keeps.setCell (F := fun i => i = bs) (Keeps.refl _ _) (p := ⟨bs, 0, none⟩) (.inl rfl) _) hne.out)
        exact ⟨⟨k + 1, q8, tp, d8, tn, by omega, by go_num, by rw [f5.out, f34.out, fw.out, List.length_append]; exact hS9, hA9⟩, by simp [intOf]; omega⟩
      have e5 : (kd == 5) = false := by simp [k5]
      have f5 : Hid (resetsC (L.take (k + 1)) = R) := Lib.hid (by rw [hr5.out, if_neg k5, List.append_nil])
      clear hr5 hr34 hw1 k1 k3 k4 k5 hBx hSy hAy
      go_wp2_with fail
      exact ⟨⟨k + 1, rp, tp, rn, tn, by omega, by go_num, by rw [f5.out, f34.out, fw.out]; exact hSx, hAx⟩, by simp [intOf]; omega⟩

    · obtain rfl : k = L.length := by omega
      rw [List.take_length] at hS
      have hsb := Lib.hid hS.out.b
      have hth : Hid (wr.there ba 0 3) := Lib.hid (hA.out.there 0 3 (Nat.le_refl 3))
      clear hlk
      go_wp2_with (first | ((with_reducible refine at_slot 37 ?_); refine wpList_load_mid rfl 40 (.tmp 3) rfl bs 0 rfl [.slice rp (resetsC L).length rn, .slice tp (restartsC L).length tn, .bool (wholeK L)] _ hsb.out.range Tryz.underlying40 rfl restInfo ?_) | ((with_reducible refine at_store 2 ?_); refine wpList_store_mid rfl 40 (.tmp 2) (.tmp 37) rfl ba 0 #[.slice rp (resetsC L).length rn, .slice tp (restartsC L).length tn, .bool (wholeK L)] rfl rfl hth.out restInfo (by simp; exact ⟨rfl, rfl, rfl⟩) ?_))
      have hR := World.rangeAt_setCells_same wr ba 0 [.slice rp (resetsC L).length rn, .slice tp (restartsC L).length tn, .bool (wholeK L)] hth.out
      have kq : Keeps (fun i => i = ba) wr (wr.setCells ba 0 [.slice rp (resetsC L).length rn, .slice tp (restartsC L).length tn, .bool (wholeK L)]) := Keeps.setCells (F := fun i => i = ba) (.inl rfl) _ _ _ (Keeps.refl _ _)
      have o1 := hS.out.r.keep kq (fun k e f => hS.out.r.ne_blkB hA.out (by decide) k e f)
      have o2 := hS.out.t.keep kq (fun k e f => hS.out.t.ne_blkB hA.out (by decide) k e f)
      have hkz := hS.out.k.trans' kq (fun i e => .inr (by rw [e]; exact hbb.out))
      refine bodyPost_ret (ret_cell Tryz.results13 _ _ ba _ _ rfl hR Tryz.underlying40 rfl restInfo) rfl ?_
      exact ⟨rp, rn, tp, tn, rfl, o1.at nv1_len, o2.at nv1_len, hkz⟩
end Go.Proofs.YtmclnamgihphcaaGreat
