/- Of adv: All of one interface that nobody knows. -/
import Derived.Test.YtialookpnoaogaaGreatZZ29
import Derived.Test.YtialookpnoaogaaGreatZZ14
import Derived.Test.YtialookpnoaogaaGreatZZ20
import Derived.Laws.StructEq
set_option linter.unusedVariables false
set_option linter.unusedSimpArgs false
set_option linter.unusedVariables false
set_option linter.unusedSimpArgs false
namespace Go.Proofs.YtialookpnoaogaaGreat
open Go.RowKit

theorem standAll15 : ∃ i, Tryz.prog.info? 67 = some i ∧ i.zero = some (.agg #[.int .u32 0, .int .u32 0, .int .u32 0, .int .i64 0, .int .i64 0, .int .i64 0, .int .i64 0, .int .i64 0, .bool false, .string ⟨#[]⟩, .string ⟨#[]⟩, .int .u32 0, .slice none 0 0]) ∧ i.size = 13 ∧ i.bytes = 128 := by
  have h : (Tryz.prog.info? 67).map (fun i => (i.zero, i.size, i.bytes)) = some (some (.agg #[.int .u32 0, .int .u32 0, .int .u32 0, .int .i64 0, .int .i64 0, .int .i64 0, .int .i64 0, .int .i64 0, .bool false, .string ⟨#[]⟩, .string ⟨#[]⟩, .int .u32 0, .slice none 0 0]), 13, 128) := by kernel_rfl
  obtain ⟨i, hi, e⟩ := Option.map_eq_some_iff.1 h
  injection e with e1 e; injection e with e2 e3
  exact ⟨i, hi, e1, e2, e3⟩
theorem stand_one (x : StandR) : ∀ u ∈ x.vals, u.oneCell' = true := by
  intro u hu
  simp only [StandR.vals, standVals, setVals, List.mem_append, List.mem_cons, List.not_mem_nil, or_false] at hu
  rcases hu with (rfl | rfl | rfl | rfl | rfl | rfl | rfl | rfl | rfl | rfl) | rfl | rfl | rfl <;> rfl
/-- nothing behind rows of the call's own -/
theorem wpList_append_none {α : Type} {sz : Nat} {cv : α → List Value} {P : Program} {w : World} {ops : Array Oper} {rest : List Oper} {o : Oper} {a : Act} {Q : Exit → Act → World → Prop} (hgd : o.guard = none) (s x : Operand) (t e : TypeId)
    (ho : o.op = .call { callee := .builtin .append, args := #[s, x], argTypes := #[t, t] }) (i : TypeInfo) (ht : P.underlying t = some (.slice e)) (hi : P.info? e = some i) (w0 : World) (v : Value) (xs : List α) (hs : a.eval s = v) (hown : OwnR e sz cv w0 w v xs) (hx : a.eval x = .slice none 0 0)
    (h : wpList P ops Q rest (a.put o.dst v) w) : wpList P ops Q (o :: rest) a w :=
  wpList_plain hgd fun _ hK => by
    have hrun := run_append_owned_none (P := P) (w := w) 0 t o.type e i sz ht hi v xs.length (rowCells cv xs) hown.1
    unfold Oper.wp
    simp [execOp, ho, resolve, invoke, builtin, hs, hx, hrun, Result.andThen]
    exact hK _ _ h
theorem one_of_nodup {α : Type} {l : List α} {a : α} (hn : l.Nodup) (h : ∀ b, b ∈ l ↔ b = a) : l = [a] := by
  match l, hn, h with
  | [], _, h => exact absurd ((h a).2 rfl) (by simp)
  | [b], _, h => rw [(h b).1 List.mem_cons_self]
  | b :: c :: r, hn, h =>
    have h1 := (h b).1 List.mem_cons_self
    have h2 := (h c).1 (List.mem_cons_of_mem _ List.mem_cons_self)
    rw [List.nodup_cons] at hn
    exact absurd (by rw [h1, ← h2]; exact List.mem_cons_self) hn.1
theorem routers_one {lk : StandR → List LinkD} {me : Nat} {x : StandR} {w : World} {es : List OwnE} (h : Routers me lk [x] w es) : ∃ e1, es = [e1] ∧ e1.area = x.s.area := by
  have h1 := one_of_nodup (a := x.s.area) h.n (fun b => by rw [h.l b]; simp [eq_comm])
  have h2 := congrArg List.length h1
  rw [List.length_map] at h2
  obtain ⟨e, rfl⟩ := List.length_eq_one_iff.1 h2
  exact ⟨e, rfl, by simpa using h1⟩
def meOf (ls : List LineD) : Nat := (addrL (valueR ls 0 [] [114, 111, 117, 116, 101, 114, 45, 105, 100])).getD 0
theorem links_post {x : StandR} (h1 : x.dr = 0) (h2 : x.s.two = false) (W : World) : Calls Tryz.prog 57 #[.agg x.vals.toArray] W (LinksPost W [netL15 x.s]) := by
  obtain ⟨s, nm, dr, p, n, c⟩ := x
  obtain rfl : dr = 0 := h1
  refine (standLinks_alone s nm n c p W h2).mono ?_
  rintro e w' ⟨p, c, rfl, h1, h2⟩
  exact ⟨p, c, rfl, h1, h2⟩
def AloneP (s : SetD) (me : Nat) (w : World) (e : Ending) (w' : World) : Prop := ∃ (p : Option Addr) (c : Nat) (e1 : OwnE), e = .returned (.tuple #[.slice p 1 c, .int .i64 0]) ∧ RowsAt 10 OwnE.vals w' (.slice p 1 c) [e1] ∧ e1.area = s.area ∧ e1.type = 1 ∧ e1.id = me ∧ e1.me = me ∧ e1.mask = 0 ∧ e1.p7 = none ∧ e1.n7 = 0 ∧ e1.c7 = 0 ∧ e1.n5 = 1 ∧ RowsAt 4 linkVals w' (.slice e1.p5 e1.n5 e1.c5) [netL15 s] ∧ Keeps (fun _ => False) w w'
set_option maxRecDepth 100000 in
set_option maxHeartbeats 8000000 in
theorem advAll_one (v : Value) (ls : List LineD) (n : List UInt8) (s : SetD) (me : Nat) (w : World) (hv : Hid (RowsAt 4 lineVals w v ls)) (hr : Hid (rightC ls = true)) (hc : Hid (checkC ls = [])) (hn : Hid (namesA 2 ls = [n])) (hs : Hid (setD ls n = s)) (htwo : Hid (s.two = false)) (ha : s.area < 4294967296) (hme : Hid (meOf ls = me)) :
    Calls Tryz.prog 6 #[v, .slice none 0 0] w (AloneP s me w) := by
  obtain ⟨p, c, rfl⟩ := hv.out.slice
  have h0 : 0 < ls.length := by
    have h1 := namesA_len 2 ls
    rw [hn.out] at h1
    exact h1
  obtain ⟨i0, hi0, hi1, hi2, hi3⟩ := standAll15
  obtain ⟨i1, hj0, hj1, hj2, hj3⟩ := ownAll15
  have hus := Lib.hid (isUsable_c _ ls true w hv hr (Lib.hid (by rw [hc.out]; rfl)))
  obtain ⟨N, hN⟩ : ∃ N : ByteArray, (⟨n.toArray⟩ : ByteArray) = N := ⟨_, rfl⟩
  have hN' := Lib.hid hN
  obtain ⟨area, addr, mask, cost, hello, dead, again, prio, two, auth⟩ := s
  obtain ⟨x, hx⟩ : ∃ x : StandR, (⟨⟨area, addr, mask, cost, hello, dead, again, prio, two, auth⟩, n, 0, none, 0, 0⟩ : StandR) = x := ⟨_, rfl⟩
  have hxv : x.vals = [.int .u32 area, .int .u32 addr, .int .u32 mask, .int .i64 cost, .int .i64 hello, .int .i64 dead, .int .i64 again, .int .i64 prio, .bool two, strv auth, .string N, .int .u32 0, .slice none 0 0] := by rw [← hx, ← hN]; rfl
  have hxv' := Lib.hid hxv
  have hxs : Hid (x.s = ⟨area, addr, mask, cost, hello, dead, again, prio, two, auth⟩ ∧ x.dr = 0 ∧ x.n = 0 ∧ x.p = none ∧ x.c = 0) := Lib.hid (by rw [← hx]; exact ⟨rfl, rfl, rfl, rfl, rfl⟩)
  clear hN hx hxv
  go_enter Tryz.func6, Tryz.ntmps6
  go_wp2_with fail
  refine hus.out.mono ?_
  rintro e w1 ⟨rfl, hk1⟩
  have hn1 := Lib.hid (names_all _ ls 2 w1 (Lib.hid (hv.out.keep hk1)) hr)
  rw [hn.out] at hn1
  have hk1' := Lib.hid hk1
  clear hus hk1
  go_wp2_with fail
  refine hn1.out.mono ?_
  rintro e w2 ⟨pn, cn, rfl, hS, hk2⟩
  have hS2 := Lib.hid hS
  have hk2' := Lib.hid (hk1'.out.trans hk2)
  clear hn1 hk2 hk1' hS
  go_wp2_with fail
  refine (areOf_nil _ _).mono ?_
  rintro e w3 ⟨rfl, hk3⟩
  have hS3 : Hid (∃ g o, pn = some ⟨g, o, none⟩ ∧ w3.cell? ⟨g, o + 0, none⟩ = some (.string N)) := Lib.hid (by
    obtain ⟨g, o, e, hcell⟩ := StrsAt.get hS2.out (k := 0) (x := n) rfl
    rw [hN'.out] at hcell
    exact ⟨g, o, e, (hk3.cell (p := ⟨g, o + 0, none⟩) (World.block_lt_of_cell? _ _ hcell) id).trans hcell⟩)
  obtain ⟨g, o, rfl, hcell⟩ := hS3.out
  have hcell' := Lib.hid hcell
  have hk3' := Lib.hid (hk2'.out.trans hk3)
  have hO3 : Hid (OwnR 67 13 StandR.vals w3 w3 (.slice none 0 0) []) := Lib.hid (OwnR.nil _ _ (Nat.le_refl _))
  clear hk3 hk2' hS2 hS3 hcell
  go_wp2_with fail
  go_loopw [23, 7] (fun iv ov wr => ∃ (k : Nat) (q : Option Addr) (d : Nat), k ≤ 1 ∧ iv = .int .i64 k ∧ ov = .slice q k d ∧ Hid (OwnR 67 13 StandR.vals w3 wr ov ([x].take k)) ∧ Hid (Keeps (fun _ => False) w3 wr)) (fun iv _ _ => 1 - (intOf iv).toNat)
  case atStart => exact ⟨0, none, 0, by omega, rfl, rfl, hO3, Lib.hid (Keeps.refl _ _)⟩
  case round =>
    obtain ⟨k, q, d, hk, rfl, rfl, hO, hkr⟩ := hrel
    by_cases hk0 : k = 0
    · subst hk0
      have hcr := (hkr.out.cell (p := ⟨g, o + 0, none⟩) (World.block_lt_of_cell? _ _ hcell'.out) id).trans hcell'.out
      rw [Nat.add_zero] at hcr
      have hst := Lib.hid (settings_any _ ls n wr (Lib.hid (hv.out.keep (hk3'.out.trans hkr.out))) hr h0)
      unfold strv at hst
      rw [hN'.out, hs.out] at hst
      have esv : (setVals ⟨area, addr, mask, cost, hello, dead, again, prio, two, auth⟩).toArray = #[.int .u32 area, .int .u32 addr, .int .u32 mask, .int .i64 cost, .int .i64 hello, .int .i64 dead, .int .i64 again, .int .i64 prio, .bool two, strv auth] := rfl
      rw [esv] at hst
      clear esv
      go_wp2_with fail
      refine hst.out.mono ?_
      rintro e w4 ⟨rfl, hk4⟩
      have hk4' := Lib.hid (hkr.out.trans hk4)
      have hO4 := Lib.hid (hO.out.keep hk4 (fun _ _ f => f))
      clear hst hk4 hkr hO hcr
      go_wp2_with fail
      refine (faceOf_nil _ _).mono ?_
      rintro e w5 ⟨rfl, hk5⟩
      have kA := hk5.alloc (.cells x.vals.toArray 67)
      have hk5' := Lib.hid (hk4'.out.trans kA)
      have hO5 := Lib.hid (hO4.out.keep kA (fun _ _ f => f))
      have hcn := cells_new (w := w5) rfl x.vals 67
      rw [hxv'.out] at hk5' hO5 hcn
      have hxl : Hid (∀ j u, x.vals[j]? = some u → (w5.alloc (.cells #[.int .u32 area, .int .u32 addr, .int .u32 mask, .int .i64 cost, .int .i64 hello, .int .i64 dead, .int .i64 again, .int .i64 prio, .bool two, strv auth, .string N, .int .u32 0, .slice none 0 0] 67)).cell? ((⟨w5.heap.size, 0, none⟩ : Addr).add j) = some u) := Lib.hid (by rw [hxv'.out]; exact hcn)
      clear kA hk5 hO4 hk4' hcn
      go_wp2_with ((with_reducible refine at_slot 36 ?_); refine wpList_append_r rfl (.tmp 27) (.tmp 35) 60 67 rfl i0 _ 128 Tryz.underlying60 hi0 hi1 hi2 hi3 rfl (by decide) (by decide) stand_len w3 _ 0 ([x].take 0) rfl rfl hO5.out _ rfl x hxl.out (stand_one _) (by omega) ?_; intro q8 d8 w6 hO6 hg6)
      exact ⟨⟨1, q8, d8, by omega, rfl, rfl, hO6, Lib.hid (hO5.out.keeps hk5'.out hg6.out)⟩, by simp [intOf]⟩
    · obtain rfl : k = 1 := by omega
      go_wp2_with fail
      have hRw := Lib.hid (hO.out.at stand_len)
      have hkW := Lib.hid (hk3'.out.trans hkr.out)
      refine (advId_c _ ls wr (Lib.hid (hv.out.keep hkW.out)) hr me (Lib.hid hme.out)).mono ?_
      rintro e w4 ⟨rfl, hk4⟩
      have hR4 := Lib.hid (hRw.out.keep hk4)
      have hk4' := Lib.hid (hkW.out.trans hk4)
      clear hRw hkW hk4 hkr hO hO3 hcell' hk3'
      have r1 : Hid (∀ y ∈ [x], ((fun x : StandR => [netL15 x.s]) y).length ≤ 9) := Lib.hid (fun y _ => by show 1 ≤ 9; omega)
      have r2 : Hid (∀ y ∈ [x], y.s.area < 4294967296) := Lib.hid (fun y hy => by rw [List.mem_singleton.1 hy, hxs.out.1]; exact ha)
      have _mark1 := True.intro
      have r3 : Hid (∀ y ∈ [x], ∀ W, Calls Tryz.prog 57 #[.agg y.vals.toArray] W (LinksPost W ((fun x : StandR => [netL15 x.s]) y))) := Lib.hid (fun y hy W => by
        rw [List.mem_singleton.1 hy]
        exact links_post hxs.out.2.1 (by rw [hxs.out.1]; exact htwo.out) W)
      have _mark2 := True.intro
      have hro := Lib.hid (routers_any (fun x => [netL15 x.s]) me _ [x] w4 hR4 (Nat.le_of_ble_eq_true rfl) r1 r2 r3)
      have _mark := True.intro
      go_wp2_with fail
      refine hro.out.mono ?_
      rintro e w5 ⟨es, po, co, rfl, hOw, hRo, -, hk5⟩
      obtain ⟨e1, rfl, he1⟩ := routers_one hRo
      have hOw5 := Lib.hid hOw
      have hRo5 := Lib.hid hRo
      have he1' := Lib.hid he1
      have hR5 := Lib.hid (hR4.out.keep hk5)
      have hk5' := Lib.hid (hk4'.out.trans hk5)
      clear hro hOw hRo he1 hR4 hk5 hk4'
      go_wp2_with fail
      refine (networks_none me _ [x] w5 (Lib.hid hR5.out) (by simp) (Lib.hid (fun y hy => by
        rw [List.mem_singleton] at hy
        rw [hy, hxs.out.2.1]
        unfold speaksB
        simp))).mono ?_
      rintro e w6 ⟨rfl, hk6⟩
      have hOw6 := Lib.hid (hOw5.out.keep hk6 (fun _ _ f => f))
      have hk6' := Lib.hid (hk5'.out.trans hk6)
      have hk56 := Lib.hid hk6
      clear hR5 hk5' hk6
      go_wp2_with ((with_reducible refine at_slot 46 ?_); refine wpList_append_none rfl (.tmp 42) (.tmp 45) 25 77 rfl i1 Tryz.underlying25 hj0 w4 _ [e1] rfl hOw6.out rfl ?_)
      refine (sortOwn_one _ _ _ _).mono ?_
      rintro e w7 ⟨rfl, rfl⟩
      go_wp2_with fail
      go_ret2
      obtain ⟨e2, e3, e4, e5, e6, e7, e8, e9, e10⟩ := hRo5.out.e e1 List.mem_cons_self
      have el : areaLinks (fun x : StandR => [netL15 x.s]) [x] e1.area = [netL15 x.s] := by
        unfold areaLinks
        rw [he1'.out]
        simp
      rw [el] at e9 e10
      rw [hxs.out.1] at e10
      exact ⟨po, co, e1, rfl, hOw6.out.at ownE_len, by rw [he1'.out, hxs.out.1], e2, e3, e4, e5, e6, e7, e8, e9, e10.keep hk56.out, hk6'.out⟩
end Go.Proofs.YtialookpnoaogaaGreat
/- lsa.hear, walked. -/
namespace Go.Proofs.YtialookpnoaogaaGreat
open Go.RowKit

def hearD (age type : Int) (lid adv : Nat) (seq : Int) (x : List UInt8) : LsaD :=
  if x.length < 4 then ⟨age, type, lid, adv, seq, [], 0, [], 0⟩
  else if type = 1 then ⟨age, type, lid, adv, seq, readL (x.drop 4) ((x.length - 4) / 12), 0, [], 0⟩
  else if type = 2 then ⟨age, type, lid, adv, seq, [], beVal (sub x 0 4), readN (x.drop 4) ((x.length - 4) / 4), 0⟩
  else if type = 3 then ⟨age, type, lid, adv, seq, [], beVal (sub x 0 4), [], (beVal (x.drop 4) % 4294967296 : Nat)⟩
  else ⟨age, type, lid, adv, seq, [], 0, [], 0⟩
/-- an Lsa as a value, its lists in memory -/
def LsaV (w : World) (v : Value) (m : LsaD) : Prop :=
  ∃ p5 c5 p7 c7, v = .agg #[.int .i64 m.age, .int .i64 m.type, .int .u32 m.id, .int .u32 m.adv, .int .i64 m.seq, .slice p5 m.links.length c5, .int .u32 m.mask, .slice p7 m.routers.length c7, .int .i64 m.cost] ∧ LinksAt w (.slice p5 m.links.length c5) m.links ∧ NumsAt w (.slice p7 m.routers.length c7) m.routers
/-- .. in blocks that are new since w0 -/
def LsaF (w0 w : World) (v : Value) (m : LsaD) : Prop :=
  ∃ p5 c5 p7 c7, v = .agg #[.int .i64 m.age, .int .i64 m.type, .int .u32 m.id, .int .u32 m.adv, .int .i64 m.seq, .slice p5 m.links.length c5, .int .u32 m.mask, .slice p7 m.routers.length c7, .int .i64 m.cost] ∧ LinksAt w (.slice p5 m.links.length c5) m.links ∧ NumsAt w (.slice p7 m.routers.length c7) m.routers ∧ (∀ i n c, (Value.slice p5 n c).ownBlock = some i → w0.heap.size ≤ i) ∧ (∀ i n c, (Value.slice p7 n c).ownBlock = some i → w0.heap.size ≤ i)
theorem LsaF.mk {w0 w : World} {age type seq cost : Int} {lid adv mask : Nat} {links : List LinkD} {routers : List Nat} {n5 n7 : Nat} {p5 p7 : Option Addr} {c5 c7 : Nat} (h5 : links.length = n5) (h7 : routers.length = n7) (hl : LinksAt w (.slice p5 n5 c5) links) (hr : NumsAt w (.slice p7 n7 c7) routers)
    (hf5 : ∀ i n c, (Value.slice p5 n c).ownBlock = some i → w0.heap.size ≤ i) (hf7 : ∀ i n c, (Value.slice p7 n c).ownBlock = some i → w0.heap.size ≤ i) :
    LsaF w0 w (.agg #[.int .i64 age, .int .i64 type, .int .u32 lid, .int .u32 adv, .int .i64 seq, .slice p5 n5 c5, .int .u32 mask, .slice p7 n7 c7, .int .i64 cost]) ⟨age, type, lid, adv, seq, links, mask, routers, cost⟩ := by
  subst h5; subst h7; exact ⟨_, _, _, _, rfl, hl, hr, hf5, hf7⟩
theorem drew_fresh {w : World} {v : Value} (h : ∀ i, v.ownBlock = some i → w.drew.heap.size ≤ i) : ∀ i, v.ownBlock = some i → w.heap.size ≤ i := h
theorem fresh_nil (w0 : World) : ∀ i n c, (Value.slice none n c).ownBlock = some i → w0.heap.size ≤ i := fun i n c e => by simp [Value.ownBlock] at e
theorem fresh_of {w0 w1 : World} {p : Option Addr} {n c k : Nat} (h : ∀ i, (Value.slice p n c).ownBlock = some i → w1.heap.size ≤ i) (hk : w0.heap.size + k < w1.heap.size) : ∀ i n c, (Value.slice p n c).ownBlock = some i → w0.heap.size ≤ i := fun i n' c' e => by
  have := h i (by cases p with | none => simp [Value.ownBlock] at e | some a => exact e)
  omega
theorem LsaV.mk {w : World} {age type seq cost : Int} {lid adv mask : Nat} {links : List LinkD} {routers : List Nat} {n5 n7 : Nat} {p5 p7 : Option Addr} {c5 c7 : Nat} (h5 : links.length = n5) (h7 : routers.length = n7) (hl : LinksAt w (.slice p5 n5 c5) links) (hr : NumsAt w (.slice p7 n7 c7) routers) :
    LsaV w (.agg #[.int .i64 age, .int .i64 type, .int .u32 lid, .int .u32 adv, .int .i64 seq, .slice p5 n5 c5, .int .u32 mask, .slice p7 n7 c7, .int .i64 cost]) ⟨age, type, lid, adv, seq, links, mask, routers, cost⟩ := by
  subst h5; subst h7; exact ⟨_, _, _, _, rfl, hl, hr⟩
theorem lsa_one (a b c d x : Int) (s : Value) (m : Int) (r : Value) (k : Int) (hs : s.oneCell' = true) (hr : r.oneCell' = true) : (#[.int .i64 a, .int .i64 b, .int .u32 c, .int .u32 d, .int .i64 x, s, .int .u32 m, r, .int .i64 k] : Array Value).all (·.oneCell') = true := by simp; exact ⟨rfl, rfl, rfl, rfl, rfl, hs, rfl, hr, rfl⟩

end Go.Proofs.YtialookpnoaogaaGreat
/- lsa.Get, walked. -/
namespace Go.Proofs.YtialookpnoaogaaGreat
open Go.RowKit

theorem conv_any' {W : World} {v : Value} {x : List UInt8} (h : BytesAt W v x) : (convert 215 9 v).run Tryz.prog W = .ok (.string ⟨x.toArray⟩) W := by
  cases x with
  | cons a x => exact conv_bytes h (by simp)
  | nil =>
    obtain ⟨p, c, rfl, hp, -, -⟩ := h
    cases p with
    | none => obtain rfl := hp rfl; exact conv_nil W
    | some a => exact run_convert_bytes_back W 215 9 5 a c [] Tryz.underlying215 Tryz.underlying5 Tryz.underlying9 (fun j hj => by simp at hj)
def zeroL : LsaD := ⟨0, 0, 0, 0, 0, [], 0, [], 0⟩
def hearH (h : HeadD) (x : List UInt8) : LsaD := hearD h.age h.type h.id h.adv h.seq x
def getL (x : List UInt8) : LsaD × Int :=
  if x.length < 20 then (zeroL, 4)
  else if rightF (x.drop 2) = false ∨ x.getD 16 0 = 255 ∨ x.getD 17 0 = 255 then (zeroL, 8)
  else if (headOf x).len ≠ (x.length : Int) then (zeroL, 3)
  else if canB (hearH (headOf x) (x.drop 20)) = true ∧ putB (hearH (headOf x) (x.drop 20)) = x then (hearH (headOf x) (x.drop 20), 0)
  else (zeroL, 3)
theorem sub_lt4 (x : List UInt8) (i n : Nat) (hn : n ≤ 4) : beVal (sub x i n) < 4294967296 := by
  have h1 := beVal_lt (sub x i n)
  have h2 : (sub x i n).length ≤ 4 := by unfold sub; simp; omega
  have h3 : 256 ^ (sub x i n).length ≤ 256 ^ 4 := Nat.pow_le_pow_right (by omega) h2
  omega
theorem readN_small (x : List UInt8) (j : Nat) : Small (readN x j) := by
  intro n hn
  unfold readN at hn
  obtain ⟨i, _, rfl⟩ := List.mem_map.1 hn
  exact sub_lt4 x _ 4 (by omega)
theorem readL_ok (x : List UInt8) (j : Nat) : ∀ l ∈ readL x j, l.ok := by
  intro l hl
  unfold readL at hl
  obtain ⟨i, _, rfl⟩ := List.mem_map.1 hl
  have h1 := sub_lt4 x (12 * i) 4 (by omega)
  have h2 := sub_lt4 x (12 * i + 4) 4 (by omega)
  have h3 := sub_lt4 x (12 * i + 10) 2 (by omega)
  have h4 := (x.getD (12 * i + 8) 0).toNat_lt
  refine ⟨h1, h2, ?_, ?_⟩
  · show _ ≤ (((x.getD (12 * i + 8) 0).toNat : Nat) : Int) ∧ (((x.getD (12 * i + 8) 0).toNat : Nat) : Int) ≤ _
    omega
  · show _ ≤ ((beVal (sub x (12 * i + 10) 2) : Nat) : Int) ∧ ((beVal (sub x (12 * i + 10) 2) : Nat) : Int) ≤ _
    omega
theorem no_small : Small [] := fun _ h => by cases h
theorem no_ok : ∀ l ∈ ([] : List LinkD), l.ok := fun _ h => by cases h
theorem hearD_parts (age type seq : Int) (lid adv : Nat) (x : List UInt8) : (hearD age type lid adv seq x).id = lid ∧ (hearD age type lid adv seq x).adv = adv ∧ (hearD age type lid adv seq x).mask < 4294967296 ∧ Small (hearD age type lid adv seq x).routers ∧ ∀ l ∈ (hearD age type lid adv seq x).links, l.ok := by
  unfold hearD
  have s := sub_lt4 x 0 4 (by omega)
  split
  · exact ⟨rfl, rfl, (by show (0 : Nat) < 4294967296; omega), no_small, no_ok⟩
  · split
    · exact ⟨rfl, rfl, (by show (0 : Nat) < 4294967296; omega), no_small, readL_ok _ _⟩
    · split
      · exact ⟨rfl, rfl, s, readN_small _ _, no_ok⟩
      · split
        · exact ⟨rfl, rfl, s, no_small, no_ok⟩
        · exact ⟨rfl, rfl, (by show (0 : Nat) < 4294967296; omega), no_small, no_ok⟩
/-- what Get answers -/
def GetPost (x : List UInt8) (w : World) (e : Ending) (w' : World) : Prop :=
  (∃ v, e = .returned (.tuple #[v, .int .i64 (getL x).2]) ∧ LsaF w w' v (getL x).1) ∧ Keeps (fun _ => False) w w'
theorem LsaF.zero (w0 w : World) : LsaF w0 w (.agg #[.int .i64 0, .int .i64 0, .int .u32 0, .int .u32 0, .int .i64 0, .slice none 0 0, .int .u32 0, .slice none 0 0, .int .i64 0]) zeroL := ⟨none, 0, none, 0, rfl, LinksAt.nil _, NumsAt.nil _, fresh_nil _, fresh_nil _⟩
theorem fresh_lt {w0 : World} {p : Option Addr} {n c : Nat} (h : ∀ i, (Value.slice p n c).ownBlock = some i → w0.heap.size < i) : ∀ i n c, (Value.slice p n c).ownBlock = some i → w0.heap.size ≤ i := fun i n' c' e => by
  have := h i (by cases p with | none => simp [Value.ownBlock] at e | some a => exact e)
  omega
theorem LsaV.zero (w : World) : LsaV w (.agg #[.int .i64 0, .int .i64 0, .int .u32 0, .int .u32 0, .int .i64 0, .slice none 0 0, .int .u32 0, .slice none 0 0, .int .i64 0]) zeroL := ⟨none, 0, none, 0, rfl, LinksAt.nil _, NumsAt.nil _⟩

end Go.Proofs.YtialookpnoaogaaGreat
/- lsa.Get of 20 bytes or more, walked. -/
namespace Go.Proofs.YtialookpnoaogaaGreat
open Go.RowKit


end Go.Proofs.YtialookpnoaogaaGreat
/- lsa.Get of what may be an Lsa, walked. -/
namespace Go.Proofs.YtialookpnoaogaaGreat
open Go.RowKit

theorem key_range {w : World} {B : Nat} {t : TypeId} {a b d e f g h : Value} (hb : BlkAt w B t [a, b, d, e, f, g, h]) : w.rangeAt B 1 [b, d, e] := fun j u hu => by
  have := hb.range (1 + j) u (by
    match j, hu with
    | 0, hu => exact hu
    | 1, hu => exact hu
    | 2, hu => exact hu
    | j + 3, hu => simp at hu)
  rw [Nat.zero_add] at this; exact this
/-- an Lsa as a value, its lists not in block B -/
def LsaX (lo : Nat) (w : World) (v : Value) (m : LsaD) (B : Nat) : Prop :=
  ∃ p5 c5 p7 c7, v = .agg #[.int .i64 m.age, .int .i64 m.type, .int .u32 m.id, .int .u32 m.adv, .int .i64 m.seq, .slice p5 m.links.length c5, .int .u32 m.mask, .slice p7 m.routers.length c7, .int .i64 m.cost] ∧ LinksAt w (.slice p5 m.links.length c5) m.links ∧ NumsAt w (.slice p7 m.routers.length c7) m.routers ∧ (0 < m.links.length → ∀ i n c, (Value.slice p5 n c).ownBlock = some i → i ≠ B) ∧ (0 < m.routers.length → ∀ i n c, (Value.slice p7 n c).ownBlock = some i → i ≠ B) ∧ (∀ i n c, (Value.slice p5 n c).ownBlock = some i → lo ≤ i) ∧ (∀ i n c, (Value.slice p7 n c).ownBlock = some i → lo ≤ i)
theorem LinksAt.lt {w : World} {p : Option Addr} {n c : Nat} {ls : List LinkD} (h : LinksAt w (.slice p n c) ls) (h0 : 0 < ls.length) : ∀ i n c, (Value.slice p n c).ownBlock = some i → i < w.heap.size := fun i n' c' e => by
  obtain ⟨p', c'', e', -, -, hr⟩ := h
  obtain ⟨g, o, e2, hra⟩ := hr h0
  injection e' with e1 e3 e4
  subst e1; subst e2
  simp only [Value.ownBlock, Option.some.injEq] at e
  subst e
  have := hra 0 ls[0] (by simp) 0 _ rfl
  exact World.block_lt_of_cell? w _ this
theorem NumsAt.lt {w : World} {p : Option Addr} {n c : Nat} {ls : List Nat} (h : NumsAt w (.slice p n c) ls) (h0 : 0 < ls.length) : ∀ i n c, (Value.slice p n c).ownBlock = some i → i < w.heap.size := fun i n' c' e => by
  obtain ⟨p', c'', e', -, -, hr⟩ := h
  obtain ⟨g, o, e2, hra⟩ := hr h0
  injection e' with e1 e3 e4
  subst e1; subst e2
  simp only [Value.ownBlock, Option.some.injEq] at e
  subst e
  have := hra 0 (nv ls[0]) (by rw [List.getElem?_map, List.getElem?_eq_getElem h0]; rfl)
  exact World.block_lt_of_cell? w _ this
theorem LsaF.keep {w0 w w' : World} {v : Value} {m : LsaD} (h : LsaF w0 w v m) (k : Keeps (fun _ => False) w w') : LsaF w0 w' v m := by
  obtain ⟨p5, c5, p7, c7, rfl, h1, h2, h3, h4⟩ := h
  exact ⟨p5, c5, p7, c7, rfl, h1.keep k, h2.keep k, h3, h4⟩
theorem LsaX.keep {lo : Nat} {w w' : World} {v : Value} {m : LsaD} {B : Nat} (h : LsaX lo w v m B) (k : Keeps (fun _ => False) w w') : LsaX lo w' v m B := by
  obtain ⟨p5, c5, p7, c7, rfl, h1, h2, h3⟩ := h
  exact ⟨p5, c5, p7, c7, rfl, h1.keep k, h2.keep k, h3⟩
theorem LsaF.older {w0 w1 w : World} {v : Value} {m : LsaD} (h : LsaF w1 w v m) (hs : w0.heap.size ≤ w1.heap.size) : LsaF w0 w v m := by
  obtain ⟨p5, c5, p7, c7, rfl, h1, h2, h3, h4⟩ := h
  exact ⟨p5, c5, p7, c7, rfl, h1, h2, fun i n c e => Nat.le_trans hs (h3 i n c e), fun i n c e => Nat.le_trans hs (h4 i n c e)⟩
theorem LsaF.away {w0 w : World} {v : Value} {m : LsaD} (h : LsaF w0 w v m) {B : Nat} (hB : B < w0.heap.size) {lo : Nat} (hlo : lo ≤ w0.heap.size) : LsaX lo w v m B := by
  obtain ⟨p5, c5, p7, c7, rfl, h1, h2, h3, h4⟩ := h
  exact ⟨p5, c5, p7, c7, rfl, h1, h2, fun _ i n c e => by have := h3 i n c e; omega, fun _ i n c e => by have := h4 i n c e; omega, fun i n c e => Nat.le_trans hlo (h3 i n c e), fun i n c e => Nat.le_trans hlo (h4 i n c e)⟩
theorem LsaF.away2 {w0 w : World} {v : Value} {m : LsaD} (h : LsaF w0 w v m) : LsaX w0.heap.size w v m w.heap.size := by
  obtain ⟨p5, c5, p7, c7, rfl, h1, h2, h3, h4⟩ := h
  exact ⟨p5, c5, p7, c7, rfl, h1, h2, fun h0 i n c e => by have := h1.lt h0 i n c e; omega, fun h0 i n c e => by have := h2.lt h0 i n c e; omega, h3, h4⟩
/-- an Lsa in a block of its own -/
def LsaBox (w : World) (v : Value) (m : LsaD) (lo : Nat) : Prop :=
  ∃ B p5 c5 p7 c7, v = .pointer (some ⟨B, 0, none⟩) ∧ lo ≤ B ∧ w.rangeAt B 0 [.int .i64 m.age, .int .i64 m.type, .int .u32 m.id, .int .u32 m.adv, .int .i64 m.seq, .slice p5 m.links.length c5, .int .u32 m.mask, .slice p7 m.routers.length c7, .int .i64 m.cost] ∧ LinksAt w (.slice p5 m.links.length c5) m.links ∧ NumsAt w (.slice p7 m.routers.length c7) m.routers ∧ (∀ i n c, (Value.slice p5 n c).ownBlock = some i → lo ≤ i) ∧ (∀ i n c, (Value.slice p7 n c).ownBlock = some i → lo ≤ i)
end Go.Proofs.YtialookpnoaogaaGreat
/- lsa.Get of what may be one, walked; all of Get. -/
namespace Go.Proofs.YtialookpnoaogaaGreat
open Go.RowKit

end Go.Proofs.YtialookpnoaogaaGreat
/- All of lsa.Get; puts. -/
namespace Go.Proofs.YtialookpnoaogaaGreat
open Go.RowKit

theorem hearD_lens (age type seq : Int) (lid adv : Nat) (x : List UInt8) : (hearD age type lid adv seq x).links.length ≤ x.length ∧ (hearD age type lid adv seq x).routers.length ≤ x.length := by
  unfold hearD
  split
  · simp
  · split
    · simp only [readL_len, List.length_nil]; omega
    · split
      · simp only [readN_len, List.length_nil]; omega
      · split
        · simp
        · simp
theorem headOf_ok (x : List UInt8) (H : HeadD) (h : headOf x = H) : H.id < 4294967296 ∧ H.adv < 4294967296 := by
  rw [← h]
  exact ⟨sub_lt4 x 4 4 (by omega), sub_lt4 x 8 4 (by omega)⟩

def oneL : LsaD := ⟨0, 1, 5, 5, -2147483647, [], 0, [], 0⟩
theorem one_can : canB oneL = true := by decide
theorem one_len : (putB oneL).length = 24 := by rw [putB_len]; decide
theorem one_get : getL (putB oneL) = (oneL, 0) := by kernel_rfl
end Go.Proofs.YtialookpnoaogaaGreat
/- slices.Equal of links and of numbers, walked. -/
namespace Go.Proofs.YtialookpnoaogaaGreat
open Go.RowKit

def linkEq (a b : LinkD) : Bool := decide (a.id = b.id) && (decide (a.data = b.data) && (decide (a.type = b.type) && decide (a.cost = b.cost)))
def linksEq : List LinkD → List LinkD → Bool
  | [], [] => true
  | a :: r, b :: s => linkEq a b && linksEq r s
  | _, _ => false
def numsEq : List Nat → List Nat → Bool
  | [], [] => true
  | a :: r, b :: s => decide (a = b) && numsEq r s
  | _, _ => false
theorem linksEq_len {a b : List LinkD} (h : a.length ≠ b.length) : linksEq a b = false := by
  induction a generalizing b with
  | nil => cases b <;> simp_all [linksEq]
  | cons x a ih =>
    cases b with
    | nil => rfl
    | cons y b => simp only [linksEq]; rw [ih (by simpa using h)]; simp
theorem numsEq_len {a b : List Nat} (h : a.length ≠ b.length) : numsEq a b = false := by
  induction a generalizing b with
  | nil => cases b <;> simp_all [numsEq]
  | cons x a ih =>
    cases b with
    | nil => rfl
    | cons y b => simp only [numsEq]; rw [ih (by simpa using h)]; simp
theorem numsEq_step {a b : List Nat} {k : Nat} (h1 : k < a.length) (h2 : k < b.length) : numsEq (a.drop k) (b.drop k) = (decide (a[k] = b[k]) && numsEq (a.drop (k + 1)) (b.drop (k + 1))) := by
  rw [List.drop_eq_getElem_cons h1, List.drop_eq_getElem_cons h2]; rfl
theorem linksEq_step {a b : List LinkD} {k : Nat} (h1 : k < a.length) (h2 : k < b.length) : linksEq (a.drop k) (b.drop k) = (linkEq a[k] b[k] && linksEq (a.drop (k + 1)) (b.drop (k + 1))) := by
  rw [List.drop_eq_getElem_cons h1, List.drop_eq_getElem_cons h2]; rfl
@[go_sem] theorem guardLink (op : BinOp) (x y : Operand) (xs ys : Array Value) (w : World) : (eqGuard op 142 x y (.agg xs) (.agg ys)).run Tryz.prog w = .ok () w := run_eqGuard_agg w op 142 x y xs ys (by kernel_rfl)
end Go.Proofs.YtialookpnoaogaaGreat
/- lsa.Alike, walked (gen_lt.py writes this). -/
namespace Go.Proofs.YtialookpnoaogaaGreat
open Go.RowKit

def keyEq (a b : LsaD) : Bool := decide (a.type = b.type) && (decide (a.id = b.id) && decide (a.adv = b.adv))
def alikeB (a b : LsaD) : Bool := keyEq a b && (decide (a.mask = b.mask) && (decide (a.cost = b.cost) && (linksEq a.links b.links && numsEq a.routers b.routers)))
@[go_sem] theorem guardKey (op : BinOp) (x y : Operand) (xs ys : Array Value) (w : World) : (eqGuard op 71 x y (.agg xs) (.agg ys)).run Tryz.prog w = .ok () w := run_eqGuard_agg w op 71 x y xs ys (by kernel_rfl)
theorem alike_cases (k1 k2 k3 m c l r : Prop) : ¬ k1 ∨ (k1 ∧ ¬ k2) ∨ (k1 ∧ k2 ∧ ¬ k3) ∨ (k1 ∧ k2 ∧ k3 ∧ ¬ m) ∨ (k1 ∧ k2 ∧ k3 ∧ m ∧ ¬ c) ∨ (k1 ∧ k2 ∧ k3 ∧ m ∧ c ∧ ¬ l) ∨ (k1 ∧ k2 ∧ k3 ∧ m ∧ c ∧ l) := by
  by_cases h1 : k1 <;> by_cases h2 : k2 <;> by_cases h3 : k3 <;> by_cases h4 : m <;> by_cases h5 : c <;> by_cases h6 : l <;> simp [h1, h2, h3, h4, h5, h6]
theorem links_eq_len {a b : List LinkD} (h : linksEq a b = true) : a.length = b.length := by
  by_cases e : a.length = b.length
  · exact e
  · rw [linksEq_len e] at h; simp at h
end Go.Proofs.YtialookpnoaogaaGreat
