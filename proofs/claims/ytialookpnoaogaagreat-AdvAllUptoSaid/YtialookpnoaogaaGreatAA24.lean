/- Of adv: what the document's All has in memory, plain. -/
import Derived.Test.YtialookpnoaogaaGreatAA22
import Derived.Test.YtialookpnoaogaaGreatAA23
import Derived.Laws.Tables
import Derived.Test.YtialookpnoaogaaGreatAA21
import Derived.Test.YtialookpnoaogaaGreatAA18
import Derived.Test.YtialookpnoaogaaGreatAA17
set_option linter.unusedVariables false
set_option linter.unusedSimpArgs false
set_option linter.unusedVariables false
set_option linter.unusedSimpArgs false
namespace Go.Proofs.YtialookpnoaogaaGreat
open Go.RowKit

/-- what the document has gathered so far, in memory -/
structure DocS (w0 W : World) (v : Value) (zs : List (OwnE × TellD)) : Prop where
  own : OwnR 96 10 OwnE.vals w0 W v (zs.map (·.1))
  ok : ∀ z ∈ zs, OwnOf W z.1 z.2 ∧ ApartD v z.1 z.2
theorem DocS.nil (w : World) : DocS w w (.slice none 0 0) [] := ⟨OwnR.nil _ _ (Nat.le_refl _), fun z h => by cases h⟩
theorem DocS.keep {w0 W W' : World} {v : Value} {zs : List (OwnE × TellD)} (h : DocS w0 W v zs) (k : Keeps (fun _ => False) W W') : DocS w0 W' v zs :=
  ⟨h.own.keep k (fun _ _ f => f), fun z hz => ⟨(h.ok z hz).1.keepF k (fun _ _ _ f => f) (fun _ _ _ f => f), (h.ok z hz).2⟩⟩
theorem DocS.slice {w0 W : World} {v : Value} {zs : List (OwnE × TellD)} (h : DocS w0 W v zs) : ∃ p c, v = .slice p zs.length c := by
  obtain ⟨p, c, e⟩ := h.own.slice
  rw [List.length_map] at e
  exact ⟨p, c, e⟩
theorem DocS.lt {w0 W : World} {v : Value} {zs : List (OwnE × TellD)} (h : DocS w0 W v zs) {i : Nat} (e : v.ownBlock = some i) : i < W.heap.size := by
  obtain ⟨c1, r1, h⟩ := h.own.type_ i e
  exact (Array.getElem?_eq_some_iff.1 h).1
theorem OwnOf.lt5 {W : World} {e : OwnE} {d : TellD} (h : OwnOf W e d) (h0 : 0 < d.links.length) (i : Nat) (hi : (Value.slice e.p5 e.n5 e.c5).ownBlock = some i) : i < W.heap.size :=
  LinksAt.lt (p := e.p5) (n := e.n5) (c := e.c5) h.links h0 i e.n5 e.c5 hi
theorem OwnOf.lt7 {W : World} {e : OwnE} {d : TellD} (h : OwnOf W e d) (h0 : 0 < d.nums.length) (i : Nat) (hi : (Value.slice e.p7 e.n7 e.c7).ownBlock = some i) : i < W.heap.size :=
  NumsAt.lt (p := e.p7) (n := e.n7) (c := e.c7) h.nums h0 i e.n7 e.c7 hi
/-- one more row -/
theorem DocS.push {w0 W W2 : World} {v : Value} {zs : List (OwnE × TellD)} (h : DocS w0 W v zs) {e : OwnE} {d : TellD} (ho : OwnOf W e d) (ha : ApartD v e d) {p : Option Addr} {n c : Nat} (hO : OwnR 96 10 OwnE.vals w0 W2 (.slice p n c) (zs.map (·.1) ++ [e])) (g : Grown W v p n c W2) : DocS w0 W2 (.slice p n c) (zs ++ [(e, d)]) := by
  have key : ∀ z : OwnE × TellD, OwnOf W z.1 z.2 → ApartD v z.1 z.2 → OwnOf W2 z.1 z.2 ∧ ApartD (.slice p n c) z.1 z.2 := fun z h1 h2 => by
    refine ⟨h1.keepF g.k h2.1 h2.2, fun h0 i e1 e2 => ?_, fun h0 i e1 e2 => ?_⟩
    · have hi := h1.lt5 h0 i e1
      rcases g.s i e2 with h | h
      · exact h2.1 h0 i e1 h
      · omega
    · have hi := h1.lt7 h0 i e1
      rcases g.s i e2 with h | h
      · exact h2.2 h0 i e1 h
      · omega
  refine ⟨by rw [List.map_append]; exact hO, fun z hz => ?_⟩
  rcases List.mem_append.1 hz with hz | hz
  · exact key z (h.ok z hz).1 (h.ok z hz).2
  · rw [List.mem_singleton] at hz
    subst hz
    exact key (e, d) ho ha
/-- a row has other links -/
theorem DocS.links {w0 W : World} {g n c : Nat} {zs : List (OwnE × TellD)} (h : DocS w0 W (.slice (some ⟨g, 0, none⟩) n c) zs) {i : Nat} {z : OwnE × TellD} (hz : zs[i]? = some z) (p5 : Option Addr) (c5 : Nat) (ls : List LinkD) (hl : RowsAt 4 linkVals W (.slice p5 ls.length c5) ls) (hla : 0 < ls.length → ∀ j, (Value.slice p5 ls.length c5).ownBlock = some j → ¬ j = g) :
    DocS w0 (W.setCell ⟨g, i * 10 + 6, none⟩ (.slice p5 ls.length c5)) (.slice (some ⟨g, 0, none⟩) n c) (zs.set i ({ z.1 with p5 := p5, n5 := ls.length, c5 := c5 }, { z.2 with links := ls })) := by
  have hx : (zs.map (·.1))[i]? = some z.1 := by rw [List.getElem?_map, hz]; rfl
  have k : Keeps (fun j => j = g) W (W.setCell ⟨g, i * 10 + 6, none⟩ (.slice p5 ls.length c5)) := Keeps.setCell (F := fun j => j = g) (Keeps.refl _ _) (.inl rfl) _
  have hap : ∀ {e : OwnE} {d : TellD}, ApartD (.slice (some ⟨g, 0, none⟩) n c) e d → (0 < d.links.length → ∀ i, (Value.slice e.p5 e.n5 e.c5).ownBlock = some i → ¬ i = g) ∧ (0 < d.nums.length → ∀ i, (Value.slice e.p7 e.n7 e.c7).ownBlock = some i → ¬ i = g) := fun ha =>
    ⟨fun h0 i e1 e2 => ha.1 h0 i e1 (by rw [e2]; rfl), fun h0 i e1 e2 => ha.2 h0 i e1 (by rw [e2]; rfl)⟩
  refine ⟨?_, fun y hy => ?_⟩
  · rw [List.map_set]
    exact h.own.set1 ownE_len hx rfl (by decide)
  · rcases List.mem_or_eq_of_mem_set hy with hy | rfl
    · obtain ⟨h1, h2⟩ := h.ok y hy
      exact ⟨h1.keepF k (hap h2).1 (hap h2).2, h2⟩
    · obtain ⟨h1, h2⟩ := h.ok z (List.mem_of_getElem? hz)
      refine ⟨⟨h1.area, h1.type, h1.id, h1.own_, h1.mask, rfl, h1.n7, hl.keepF k hla, h1.nums.keepF k (hap h2).2⟩, fun h0 j e1 e2 => hla h0 j e1 ?_, h2.2⟩
      have e2 : some g = some j := e2
      injection e2 with e2
      exact e2.symm
/-- two rows change about -/
theorem DocS.swap {w0 W : World} {g n c : Nat} {zs : List (OwnE × TellD)} (h : DocS w0 W (.slice (some ⟨g, 0, none⟩) n c) zs) {j : Nat} {x y : OwnE × TellD} (hx : zs[j]? = some x) (hy : zs[j + 1]? = some y) :
    DocS w0 ((W.setCells g ((j + 1) * 10) x.1.vals).setCells g (j * 10) y.1.vals) (.slice (some ⟨g, 0, none⟩) n c) ((zs.set (j + 1) x).set j y) := by
  have hx1 : (zs.map (·.1))[j]? = some x.1 := by rw [List.getElem?_map, hx]; rfl
  have hy1 : (zs.map (·.1))[j + 1]? = some y.1 := by rw [List.getElem?_map, hy]; rfl
  have h1 := h.own.sets ownE_len hy1 x.1
  have h2 := h1.sets ownE_len (i := j) (x := x.1) (by rw [List.getElem?_set, if_neg (by omega)]; exact hx1) y.1
  have k : Keeps (fun i => i = g) W ((W.setCells g ((j + 1) * 10) x.1.vals).setCells g (j * 10) y.1.vals) :=
    (Keeps.setCells (F := fun i => i = g) (.inl rfl) _ _ _ (Keeps.refl _ _)).trans (Keeps.setCells (F := fun i => i = g) (.inl rfl) _ _ _ (Keeps.refl _ _))
  refine ⟨by rw [List.map_set, List.map_set]; exact h2, fun z hz => ?_⟩
  obtain ⟨a1, a2⟩ := h.ok z ((swap_perm hx hy).mem_iff.1 hz)
  exact ⟨a1.keepF k (fun h0 i e1 e2 => a2.1 h0 i e1 (by rw [e2]; rfl)) (fun h0 i e1 e2 => a2.2 h0 i e1 (by rw [e2]; rfl)), a2⟩
/-- where the area's row is, or is laid -/
def AtRow (me a : Nat) (ds D : List TellD) (i : Nat) (d0 : TellD) : Prop :=
  (ds.any (areaRow a) = false ∧ D = ds ++ [⟨a, 1, me, me, 0, [], []⟩] ∧ i = ds.length ∧ d0 = ⟨a, 1, me, me, 0, [], []⟩)
  ∨ (D = ds ∧ ds[i]? = some d0 ∧ areaRow a d0 = true ∧ ∀ (j : Nat) d, ds[j]? = some d → areaRow a d = true → j = i)
theorem AtRow.get {me a : Nat} {ds D : List TellD} {i : Nat} {d0 : TellD} (h : AtRow me a ds D i d0) : D[i]? = some d0 := by
  rcases h with ⟨-, rfl, rfl, rfl⟩ | ⟨rfl, h, -⟩
  · simp
  · exact h
theorem map_one {ds : List TellD} {i : Nat} {d0 : TellD} {a : Nat} (f : TellD → TellD) (h0 : ds[i]? = some d0) (ha : areaRow a d0 = true) (hu : ∀ (j : Nat) d, ds[j]? = some d → areaRow a d = true → j = i) :
    ds.map (fun d => if areaRow a d = true then f d else d) = ds.set i (f d0) := by
  apply List.ext_getElem?
  intro j
  rw [List.getElem?_map, List.getElem?_set]
  by_cases hj : i = j
  · subst hj
    rw [if_pos rfl, if_pos (List.getElem?_eq_some_iff.1 h0).1, h0]
    simp [ha]
  · rw [if_neg hj]
    cases hd : ds[j]? with
    | none => rfl
    | some d =>
      have : ¬ areaRow a d = true := fun h => hj (hu j d hd h).symm
      simp [this]
theorem AtRow.row {me a : Nat} {ds D : List TellD} {i : Nat} {d0 : TellD} (h : AtRow me a ds D i d0) (ls : List LinkD) : docRow me a ls ds = D.set i { d0 with links := (d0.links ++ ls).take 40 } := by
  unfold docRow
  rcases h with ⟨h, rfl, rfl, rfl⟩ | ⟨rfl, h1, h2, h3⟩
  · rw [h, if_neg (by decide), List.set_append_right _ _ (Nat.le_refl _), Nat.sub_self]
    rfl
  · rw [if_pos (List.any_eq_true.2 ⟨d0, List.mem_of_getElem? h1, h2⟩)]
    exact map_one (moreLinks ls) h1 h2 h3
/-- of what is gathered one row alone is the area's -/
theorem doc_one {me : Nat} {lk : StandR → List LinkD} {pf : StandR → List PeerD} {xs : List StandR} {ds : List TellD} (hm : ∀ d, d ∈ ds ↔ IsTold me lk pf xs d) (hn : (ds.map keyD).Nodup) {a j k : Nat} {d e : TellD} (hj : ds[j]? = some d) (hk : ds[k]? = some e) (hd : areaRow a d = true) (he : areaRow a e = true) : j = k := by
  have key : ∀ d, d ∈ ds → areaRow a d = true → keyD d = (a, 1, me) := fun d hd h => by
    rcases (hm d).1 hd with ⟨x, -, rfl⟩ | ⟨x, -, -, rfl⟩
    · rw [rout_row] at h
      have h := of_decide_eq_true h
      unfold keyD routD
      rw [h]
    · rw [net_row] at h; cases h
  have h1 := key d (List.mem_of_getElem? hj) hd
  have h2 := key e (List.mem_of_getElem? hk) he
  have hjl := (List.getElem?_eq_some_iff.1 hj).1
  have hkl := (List.getElem?_eq_some_iff.1 hk).1
  refine (List.getElem_inj (xs := ds.map keyD) (h₀ := by rw [List.length_map]; exact hjl) (h₁ := by rw [List.length_map]; exact hkl) hn).1 ?_
  rw [List.getElem_map, List.getElem_map, (List.getElem?_eq_some_iff.1 hj).2, (List.getElem?_eq_some_iff.1 hk).2, h1, h2]
/-- the last one ahead of j that is the area's -/
def PosUp (a : Nat) (ds : List TellD) (j : Nat) (r : Int) : Prop :=
  (r = -1 ∧ ∀ (i : Nat) d, i < j → ds[i]? = some d → areaRow a d = false) ∨ ∃ i d, r = ((i : Nat) : Int) ∧ i < j ∧ ds[i]? = some d ∧ areaRow a d = true
theorem pos_none {a : Nat} {ds : List TellD} (h : PosUp a ds ds.length (-1)) : ds.any (areaRow a) = false := by
  rcases h with ⟨-, h⟩ | ⟨i, d, e, -⟩
  · rw [Bool.eq_false_iff]
    intro h2
    obtain ⟨d, hd, h3⟩ := List.any_eq_true.1 h2
    obtain ⟨i, hi, e⟩ := List.mem_iff_getElem.1 hd
    have := h i d hi (by rw [List.getElem?_eq_getElem hi, e])
    rw [this] at h3; cases h3
  · omega
theorem pos_no {a j : Nat} {ds : List TellD} {r : Int} {d : TellD} (h : PosUp a ds j r) (hd : ds[j]? = some d) (hn : areaRow a d = false) : PosUp a ds (j + 1) r := by
  rcases h with ⟨e, h⟩ | ⟨i, d2, e, h1, h2⟩
  · refine .inl ⟨e, fun i d2 hi h2 => ?_⟩
    by_cases hij : i = j
    · subst hij; rw [hd] at h2; injection h2 with h2; subst h2; exact hn
    · exact h i d2 (by omega) h2
  · exact .inr ⟨i, d2, e, by omega, h2⟩
/-- the face of a name, as the document gathers it -/
def faceUp (n : List UInt8) (fs : List FaceE) (j : Nat) : FaceE := ((fs.take j).find? (fun f => decide (f.nm = n))).getD ⟨[], 0, none, 0, []⟩
theorem face_no {n : List UInt8} {fs : List FaceE} {j : Nat} {f : FaceE} (h : fs[j]? = some f) (hn : f.nm ≠ n) : faceUp n fs (j + 1) = faceUp n fs j := by
  unfold faceUp
  rw [List.take_add_one, h]
  show (((fs.take j) ++ [f]).find? _).getD _ = _
  rw [List.find?_append]
  cases (fs.take j).find? (fun f => decide (f.nm = n)) with
  | some x => rfl
  | none => simp [hn]
theorem face_yes {xs : List (List UInt8)} {n : List UInt8} {fs : List FaceE} {j : Nat} {f : FaceE} (hok : FacesOk xs fs) (h : fs[j]? = some f) (hn : f.nm = n) : faceUp n fs (j + 1) = f := by
  unfold faceUp
  rw [List.take_add_one, h]
  show (((fs.take j) ++ [f]).find? _).getD _ = _
  rw [List.find?_append]
  have : (fs.take j).find? (fun f => decide (f.nm = n)) = none := by
    rw [List.find?_eq_none]
    intro g hg e
    exact (hok j f h).1 ⟨g, hg, by rw [of_decide_eq_true e, hn]⟩
  rw [this]
  simp [hn]
theorem face_end (n : List UInt8) (fs : List FaceE) : (faceUp n fs fs.length).dr = (faceFor n fs).dr ∧ (faceUp n fs fs.length).p = (faceFor n fs).p ∧ (faceUp n fs fs.length).c = (faceFor n fs).c ∧ (faceUp n fs fs.length).full = (faceFor n fs).full := by
  unfold faceUp faceFor
  rw [List.take_length]
  cases fs.find? (fun f => decide (f.nm = n)) with
  | some x => exact ⟨rfl, rfl, rfl, rfl⟩
  | none => exact ⟨rfl, rfl, rfl, rfl⟩
def ltP15 (x y : OwnE × TellD) : Prop := ltD x.2 y.2
theorem ltP_as (a b : OwnE × TellD) (h : ltP15 a b) : ¬ ltP15 b a := ltD_asym h
theorem ltP_tr (a b c : OwnE × TellD) (h : ltP15 a b) : ltP15 c b ∨ ltP15 a c := by
  unfold ltP15 ltD at *
  omega
theorem insN_len (l : List Nat) (n : Nat) : (insN l n).length ≤ l.length + 1 := by
  induction l with
  | nil => simp [insN]
  | cons a l ih =>
    unfold insN
    split
    · simp
    · split
      · simp
      · simp; omega
/-- the document's ahead, of rows of one router -/
theorem ahead_lt {W W' : World} {x y : OwnE} {d e : TellD} (hx : OwnOf W x d) (hy : OwnOf W' y e) (hm : d.me = e.me) : (aheadB x y = true) ↔ ltD d e := by
  unfold aheadB ltD
  rw [hx.area, hx.type, hx.own_, hx.id, hy.area, hy.type, hy.own_, hy.id, hm]
  by_cases h1 : d.area = e.area
  · rw [if_neg (by simp [h1])]
    by_cases h2 : d.type = e.type
    · rw [if_neg (by simp [h2]), if_neg (by simp)]
      simp [h1, h2]
    · rw [if_pos h2]
      simp [h1, h2]
  · rw [if_pos h1]
    simp [h1]
theorem told_me {me : Nat} {lk : StandR → List LinkD} {pf : StandR → List PeerD} {xs : List StandR} {d : TellD} (h : IsTold me lk pf xs d) : d.me = me := by
  rcases h with ⟨x, -, rfl⟩ | ⟨x, -, -, rfl⟩ <;> rfl
set_option maxRecDepth 100000 in
theorem own_built (ar ty ix me mk : Int) (p5 p7 : Option Addr) (n5 c5 n7 c7 : Nat) : Tryz.prog.built 96 [(0, .int .u32 ar), (1, .agg #[.int .i64 0, .int .i64 ty, .int .u32 ix, .int .u32 me, .int .i64 (-2147483647), .slice p5 n5 c5, .int .u32 mk, .slice p7 n7 c7, .int .i64 0])] = some #[.int .u32 ar, .int .i64 0, .int .i64 ty, .int .u32 ix, .int .u32 me, .int .i64 (-2147483647), .slice p5 n5 c5, .int .u32 mk, .slice p7 n7 c7, .int .i64 0] := by
  kernel_rfl
set_option maxRecDepth 100000 in
theorem lsa_built (ty ix me mk : Int) (p7 : Option Addr) (n7 c7 : Nat) : Tryz.prog.built 94 [(1, .agg #[.int .i64 ty, .int .u32 ix, .int .u32 me]), (2, .int .i64 (-2147483647)), (4, .int .u32 mk), (5, .slice p7 n7 c7)] = some #[.int .i64 0, .int .i64 ty, .int .u32 ix, .int .u32 me, .int .i64 (-2147483647), .slice none 0 0, .int .u32 mk, .slice p7 n7 c7, .int .i64 0] := by
  kernel_rfl
theorem wpList_built {P : Program} {ops : Array Oper} {rest : List Oper} {o : Oper} {a : Act} {w : World} {Q : Exit → Act → World → Prop} (hg : o.guard = none) (t : TypeId) (parts : Array (Nat × Operand)) (ho : o.op = .build t parts) (L : List (Nat × Value)) (hL : (parts.map fun (i, x) => (i, a.eval x)).toList = L) (cs : Array Value)
    (hf : P.built t L = some cs) (h : wpList P ops Q rest (a.put o.dst (.agg cs)) w) : wpList P ops Q (o :: rest) a w :=
  wpList_build hg t parts ho (by rw [hL, hf]; rfl) (by rw [hL, hf]; exact h)
theorem own_run (ar ty ix me mk : Int) (p5 p7 : Option Addr) (n5 c5 n7 c7 : Nat) (w : World) : (Instr.buildSlice 34 1 #[(0, .agg #[.int .u32 ar, .int .i64 0, .int .i64 ty, .int .u32 ix, .int .u32 me, .int .i64 (-2147483647), .slice p5 n5 c5, .int .u32 mk, .slice p7 n7 c7, .int .i64 0])]).run Tryz.prog w = .ok (.slice (some ⟨w.heap.size, 0, none⟩) 1 1) (w.alloc (.cells #[.int .u32 ar, .int .i64 0, .int .i64 ty, .int .u32 ix, .int .u32 me, .int .i64 (-2147483647), .slice p5 n5 c5, .int .u32 mk, .slice p7 n7 c7, .int .i64 0] 96)) := by go_simp
theorem link_run (i d t c : Int) (w : World) : (Instr.buildSlice 92 1 #[(0, .agg #[.int .u32 i, .int .u32 d, .int .i64 t, .int .i64 c])]).run Tryz.prog w = .ok (.slice (some ⟨w.heap.size, 0, none⟩) 1 1) (w.alloc (.cells #[.int .u32 i, .int .u32 d, .int .i64 t, .int .i64 c] 98)) := by go_simp
theorem wpList_own1 {ops : Array Oper} {rest : List Oper} {op : Oper} {a : Act} {w : World} {Q : Exit → Act → World → Prop} (hgd : op.guard = none) (x : Operand) (ho : op.op = .buildSlice 34 1 #[(0, x)]) (ar ty ix me mk : Int) (p5 p7 : Option Addr) (n5 c5 n7 c7 : Nat)
    (hx : a.eval x = .agg #[.int .u32 ar, .int .i64 0, .int .i64 ty, .int .u32 ix, .int .u32 me, .int .i64 (-2147483647), .slice p5 n5 c5, .int .u32 mk, .slice p7 n7 c7, .int .i64 0])
    (h : wpList Tryz.prog ops Q rest (a.put op.dst (.slice (some ⟨w.heap.size, 0, none⟩) 1 1)) (w.alloc (.cells #[.int .u32 ar, .int .i64 0, .int .i64 ty, .int .u32 ix, .int .u32 me, .int .i64 (-2147483647), .slice p5 n5 c5, .int .u32 mk, .slice p7 n7 c7, .int .i64 0] 96))) : wpList Tryz.prog ops Q (op :: rest) a w :=
  wpList_plain hgd fun _ hK => by
    unfold Oper.wp execOp
    simp only [ho, Sem.run_bind, List.map_toArray, List.map_cons, List.map_nil, hx, own_run, Result.andThen_ok]
    exact hK _ _ h
theorem wpList_link1 {ops : Array Oper} {rest : List Oper} {op : Oper} {a : Act} {w : World} {Q : Exit → Act → World → Prop} (hgd : op.guard = none) (x : Operand) (ho : op.op = .buildSlice 92 1 #[(0, x)]) (i d t c : Int)
    (hx : a.eval x = .agg #[.int .u32 i, .int .u32 d, .int .i64 t, .int .i64 c])
    (h : wpList Tryz.prog ops Q rest (a.put op.dst (.slice (some ⟨w.heap.size, 0, none⟩) 1 1)) (w.alloc (.cells #[.int .u32 i, .int .u32 d, .int .i64 t, .int .i64 c] 98))) : wpList Tryz.prog ops Q (op :: rest) a w :=
  wpList_plain hgd fun _ hK => by
    unfold Oper.wp execOp
    simp only [ho, Sem.run_bind, List.map_toArray, List.map_cons, List.map_nil, hx, link_run, Result.andThen_ok]
    exact hK _ _ h
end Go.Proofs.YtialookpnoaogaaGreat
/- Of adv: All, where all is told. -/
set_option linter.unusedVariables false
set_option linter.unusedSimpArgs false
namespace Go.Proofs.YtialookpnoaogaaGreat
open Go.RowKit

def standOf (ls : List LineD) (fs : List FaceE) (n : List UInt8) : StandR := ⟨setD ls n, (faceFor n fs).nm, (faceFor n fs).dr, (faceFor n fs).p, (faceFor n fs).full.length, (faceFor n fs).c⟩
def standsC (ls : List LineD) (fs : List FaceE) : List StandR := (namesA 2 ls).map (standOf ls fs)
def fullC (fs : List FaceE) (x : StandR) : List PeerD := (faceFor x.nm fs).full
def linksC (fs : List FaceE) (x : StandR) : List LinkD := linksS x.s x.dr (fullC fs x)
theorem faceFor_nm (n : List UInt8) (fs : List FaceE) : (faceFor n fs).nm = n := by
  unfold faceFor
  cases h : fs.find? (fun f => decide (f.nm = n)) with
  | none => rfl
  | some f => simpa using List.find?_some h
theorem faceFor_mem (n : List UInt8) (fs : List FaceE) : faceFor n fs ∈ fs ∨ faceFor n fs = noFace n := by
  unfold faceFor
  cases h : fs.find? (fun f => decide (f.nm = n)) with
  | none => exact .inr rfl
  | some f => exact .inl (List.mem_of_find?_eq_some h)
theorem full_at {fs : List FaceE} {W : World} (h : ∀ f ∈ fs, RowsAt 2 peerVals W (.slice f.p f.full.length f.c) f.full) (n : List UInt8) : RowsAt 2 peerVals W (.slice (faceFor n fs).p (faceFor n fs).full.length (faceFor n fs).c) (faceFor n fs).full := by
  rcases faceFor_mem n fs with e | e
  · exact h _ e
  · rw [e]; exact rows_nil W
theorem full_len {xs : List (List UInt8)} {fs : List FaceE} (h : FacesOk xs fs) (n : List UInt8) : (faceFor n fs).full.length ≤ 8 := by
  rcases faceFor_mem n fs with e | e
  · obtain ⟨i, hi⟩ := List.mem_iff_getElem?.1 e
    exact (h i _ hi).2.2
  · rw [e]; exact Nat.zero_le _
theorem fullC_of (ls : List LineD) (fs : List FaceE) (n : List UInt8) : fullC fs (standOf ls fs n) = (faceFor n fs).full := by
  unfold fullC standOf
  rw [faceFor_nm]
theorem area_lt (ls : List LineD) (n : List UInt8) : (setD ls n).area < 4294967296 := by
  unfold setD
  show (addrL _).getD 0 < _
  cases h : addrL (valueR ls 2 n aAreaW) with
  | none => simp
  | some a => exact addrL_lt h
theorem linksS_len (s : SetD) (dr : Nat) (ps : List PeerD) (h : ps.length ≤ 8) : (linksS s dr ps).length ≤ 9 := by
  unfold linksS
  split
  · simp; omega
  · split <;> simp
/-- what All tells, in memory -/
def ToldPost (me : Nat) (lk : StandR → List LinkD) (pf : StandR → List PeerD) (xs : List StandR) (w : World) (e : Ending) (w' : World) : Prop :=
  ∃ (zs : List (OwnE × TellD)) (p : Option Addr) (c : Nat), e = .returned (.tuple #[.slice p zs.length c, .int .i64 0]) ∧ RowsAt 10 OwnE.vals w' (.slice p zs.length c) (zs.map (·.1)) ∧ (∀ z ∈ zs, OwnOf w' z.1 z.2) ∧ (∀ d, d ∈ zs.map (·.2) ↔ IsTold me lk pf xs d) ∧ (zs.map (·.2)).Pairwise ltD ∧ Keeps (fun _ => False) w w'
set_option maxRecDepth 100000 in
set_option maxHeartbeats 8000000 in
theorem advAll_told (v fv : Value) (ls : List LineD) (fs : List FaceE) (me : Nat) (w : World) (hv : Hid (RowsAt 4 lineVals w v ls)) (hr : Hid (rightC ls = true)) (hc : Hid (checkC ls = [])) (hf : Hid (RowsAt 3 FaceE.vals w fv fs)) (hfl : fs.length ≤ 1000) (hfp : Hid (∀ f ∈ fs, RowsAt 2 peerVals w (.slice f.p f.full.length f.c) f.full)) (hok : Hid (FacesOk (namesA 2 ls) fs)) (hme : Hid (meOf ls = me)) (hU : Hid (((standsC ls fs).map (·.s.addr)).Nodup)) :
    Calls Tryz.prog 6 #[v, fv] w (ToldPost me (linksC fs) (fullC fs) (standsC ls fs) w) := by
  obtain ⟨p, c, rfl⟩ := hv.out.slice
  obtain ⟨fp, fc, rfl⟩ := hf.out.slice
  obtain ⟨i0, hi0, hi1, hi2, hi3⟩ := standAll15
  obtain ⟨i1, hj0, hj1, hj2, hj3⟩ := ownAll15
  have hus := Lib.hid (isUsable_c _ ls true w hv hr (Lib.hid (by rw [hc.out]; rfl)))
  have hnl := namesA_len 2 ls
  have hll := right_len hr.out
  obtain ⟨ns, hns⟩ : ∃ ns, namesA 2 ls = ns := ⟨_, rfl⟩
  have hns' := Lib.hid hns
  rw [hns] at hok hnl
  clear hns
  go_enter Tryz.func6, Tryz.ntmps6
  go_wp2_with fail
  refine hus.out.mono ?_
  rintro e w1 ⟨rfl, hk1⟩
  have hn1 := Lib.hid (names_all _ ls 2 w1 (Lib.hid (hv.out.keep hk1)) hr)
  rw [hns'.out] at hn1
  have hk1' := Lib.hid hk1
  clear hus hk1
  go_wp2_with fail
  refine hn1.out.mono ?_
  rintro e w2 ⟨pn, cn, rfl, hS, hk2⟩
  have hS2 := Lib.hid hS
  have hk2' := Lib.hid (hk1'.out.trans hk2)
  clear hn1 hk2 hk1' hS
  have har := Lib.hid (areOf_any _ _ ns fs true w2 hS2 (by omega) (Lib.hid (hf.out.keep hk2'.out)) (by omega) (Lib.hid ⟨fun _ => hok.out, fun _ => rfl⟩))
  go_wp2_with fail
  refine har.out.mono ?_
  rintro e w3 ⟨rfl, hk3⟩
  have hS3 : Hid (∀ k n, ns[k]? = some n → ∃ g o, pn = some ⟨g, o, none⟩ ∧ w3.cell? ⟨g, o + k, none⟩ = some (strv n)) := Lib.hid (fun k n hn => by
    obtain ⟨g, o, e, hcell⟩ := StrsAt.get hS2.out hn
    exact ⟨g, o, e, (hk3.cell (p := ⟨g, o + k, none⟩) (World.block_lt_of_cell? _ _ hcell) id).trans hcell⟩)
  have hk3' := Lib.hid (hk2'.out.trans hk3)
  have hO3 : Hid (OwnR 67 13 StandR.vals w3 w3 (.slice none 0 0) ((ns.take 0).map (standOf ls fs))) := Lib.hid (OwnR.nil _ _ (Nat.le_refl _))
  clear hk3 hk2' hS2 har
  go_wp2_with fail
  go_loopw [23, 7] (fun iv ov wr => ∃ (k : Nat) (q : Option Addr) (d : Nat), k ≤ ns.length ∧ iv = .int .i64 k ∧ ov = .slice q k d ∧ Hid (OwnR 67 13 StandR.vals w3 wr ov ((ns.take k).map (standOf ls fs))) ∧ Hid (Keeps (fun _ => False) w3 wr)) (fun iv _ _ => ns.length - (intOf iv).toNat)
  case atStart => exact ⟨0, none, 0, by omega, rfl, rfl, hO3, Lib.hid (Keeps.refl _ _)⟩
  case round =>
    obtain ⟨k, q, d, hk, rfl, rfl, hO, hkr⟩ := hrel
    by_cases hkl : k < ns.length
    · obtain ⟨n, hn⟩ : ∃ n, ns[k]? = some n := ⟨_, List.getElem?_eq_getElem hkl⟩
      obtain ⟨g, o, rfl, hcell⟩ := hS3.out k n hn
      have h0 : 0 < ls.length := by omega
      have hst := Lib.hid (settings_any _ ls n wr (Lib.hid (hv.out.keep (hk3'.out.trans hkr.out))) hr h0)
      have hfa := Lib.hid (fun W (kW : Keeps (fun _ => False) wr W) => faceOf_any n _ fs W (Lib.hid (hf.out.keep ((hk3'.out.trans hkr.out).trans kW))) (by omega))
      have hta : Hid ((ns.take (k + 1)).map (standOf ls fs) = (ns.take k).map (standOf ls fs) ++ [standOf ls fs n]) := Lib.hid (by rw [List.take_add_one, hn, List.map_append]; rfl)
      have hcr := (hkr.out.cell (p := ⟨g, o + k, none⟩) (World.block_lt_of_cell? _ _ hcell) id).trans hcell
      obtain ⟨x, hx⟩ : ∃ x, standOf ls fs n = x := ⟨_, rfl⟩
      obtain ⟨F, hF⟩ : ∃ F, faceFor n fs = F := ⟨_, rfl⟩
      obtain ⟨S, hS⟩ : ∃ S, setD ls n = S := ⟨_, rfl⟩
      have hx2 : x = ⟨S, F.nm, F.dr, F.p, F.full.length, F.c⟩ := by rw [← hx, ← hF, ← hS]; rfl
      obtain ⟨N, hN⟩ : ∃ N : ByteArray, (⟨n.toArray⟩ : ByteArray) = N := ⟨_, rfl⟩
      obtain ⟨area, addr, mask, cost, hello, dead, again, prio, two, auth⟩ := S
      obtain ⟨nm, dr, fp2, fc2, full⟩ := F
      obtain ⟨M, hM⟩ : ∃ N : ByteArray, (⟨nm.toArray⟩ : ByteArray) = N := ⟨_, rfl⟩
      unfold strv at hst hcr hfa
      rw [hN, hS] at hst
      rw [hN] at hcr
      rw [hN, hF] at hfa
      have hxv : x.vals = [.int .u32 area, .int .u32 addr, .int .u32 mask, .int .i64 cost, .int .i64 hello, .int .i64 dead, .int .i64 again, .int .i64 prio, .bool two, strv auth, .string M, .int .u32 dr, .slice fp2 full.length fc2] := by rw [hx2, ← hM]; rfl
      have esv : (setVals ⟨area, addr, mask, cost, hello, dead, again, prio, two, auth⟩).toArray = #[.int .u32 area, .int .u32 addr, .int .u32 mask, .int .i64 cost, .int .i64 hello, .int .i64 dead, .int .i64 again, .int .i64 prio, .bool two, strv auth] := rfl
      have efv : (FaceE.vals ⟨nm, dr, fp2, fc2, full⟩).toArray = #[.string M, .int .u32 dr, .slice fp2 full.length fc2] := by rw [← hM]; rfl
      rw [esv] at hst
      rw [efv] at hfa
      rw [hx] at hta
      have hxv' := Lib.hid hxv
      have m1 : (0 : Int) ≤ (k : Int) := by omega
      have m2 : (k : Int) < (ns.length : Int) := by omega
      have hlk : Hid (((ns.take k).map (standOf ls fs)).length = k) := Lib.hid (by rw [List.length_map, List.length_take]; omega)
      clear esv efv hx hF hS hx2 hN hM hcell hn hxv
      go_wp2_with fail
      refine hst.out.mono ?_
      rintro e w4 ⟨rfl, hk4⟩
      have hfb := Lib.hid (hfa.out _ hk4)
      have hk4' := Lib.hid (hkr.out.trans hk4)
      have hO4 := Lib.hid (hO.out.keep hk4 (fun _ _ f => f))
      clear hst hk4 hkr hO hcr hfa
      go_wp2_with fail
      refine hfb.out.mono ?_
      rintro e w5 ⟨rfl, hk5⟩
      have kA := hk5.alloc (.cells x.vals.toArray 67)
      have hk5' := Lib.hid (hk4'.out.trans kA)
      have hO5 := Lib.hid (hO4.out.keep kA (fun _ _ f => f))
      have hcn := cells_new (w := w5) rfl x.vals 67
      rw [hxv'.out] at hk5' hO5 hcn
      have hxl : Hid (∀ j u, x.vals[j]? = some u → (w5.alloc (.cells #[.int .u32 area, .int .u32 addr, .int .u32 mask, .int .i64 cost, .int .i64 hello, .int .i64 dead, .int .i64 again, .int .i64 prio, .bool two, strv auth, .string M, .int .u32 dr, .slice fp2 full.length fc2] 67)).cell? ((⟨w5.heap.size, 0, none⟩ : Addr).add j) = some u) := Lib.hid (by rw [hxv'.out]; exact hcn)
      clear kA hk5 hO4 hk4' hcn hfb
      go_wp2_with ((with_reducible refine at_slot 36 ?_); refine wpList_append_r rfl (.tmp 27) (.tmp 35) 60 67 rfl i0 _ 128 Tryz.underlying60 hi0 hi1 hi2 hi3 rfl (by decide) (by decide) stand_len w3 _ k ((ns.take k).map (standOf ls fs)) hlk.out rfl hO5.out _ rfl x hxl.out (stand_one _) (by omega) ?_; intro q8 d8 w6 hO6 hg6)
      exact ⟨⟨k + 1, q8, d8, by omega, by go_num, rfl, by rw [hta.out]; exact hO6, Lib.hid (hO5.out.keeps hk5'.out hg6.out)⟩, by simp [intOf]; omega⟩
    · obtain rfl : k = ns.length := by omega
      rw [List.take_length] at hO
      obtain ⟨xs, hxs⟩ : ∃ xs, ns.map (standOf ls fs) = xs := ⟨_, rfl⟩
      have hxc : standsC ls fs = xs := by unfold standsC; rw [hns'.out, hxs]
      rw [hxs] at hO
      rw [hxc] at hU
      have hxc' := Lib.hid hxc
      have hxl : xs.length = ns.length := by rw [← hxs, List.length_map]
      have hx64 : xs.length ≤ 64 := by omega
      have hxm : Hid (∀ x ∈ xs, ∃ n, x = standOf ls fs n) := Lib.hid (fun x hx => by
        rw [← hxs] at hx
        obtain ⟨n, -, e⟩ := List.mem_map.1 hx
        exact ⟨n, e.symm⟩)
      have hkw := Lib.hid (hk3'.out.trans hkr.out)
      have hRw : Hid (RowsAt 13 StandR.vals wr (.slice q ns.length d) xs) := Lib.hid (hO.out.at stand_len)
      have hfw : Hid (∀ f ∈ fs, RowsAt 2 peerVals wr (.slice f.p f.full.length f.c) f.full) := Lib.hid (fun f hf => (hfp.out f hf).keep hkw.out)
      have hpx : Hid (∀ x ∈ xs, x.n = (fullC fs x).length ∧ (fullC fs x).length ≤ 8 ∧ RowsAt 2 peerVals wr (.slice x.p x.n x.c) (fullC fs x)) := Lib.hid (fun x hx => by
        obtain ⟨n, rfl⟩ := hxm.out x hx
        rw [fullC_of]
        exact ⟨rfl, full_len hok.out n, full_at hfw.out n⟩)
      have r1 : Hid (∀ y ∈ xs, (linksC fs y).length ≤ 9) := Lib.hid (fun y hy => linksS_len _ _ _ (hpx.out y hy).2.1)
      have r2 : Hid (∀ y ∈ xs, y.s.area < 4294967296) := Lib.hid (fun y hy => by obtain ⟨n, rfl⟩ := hxm.out y hy; exact area_lt ls n)
      have hid := Lib.hid (advId_c _ ls wr (Lib.hid (hv.out.keep hkw.out)) hr me (Lib.hid hme.out))
      clear hxs hxc hO hO3 hkr hk3' hfw hxm hS3
      go_wp2_with fail
      refine hid.out.mono ?_
      rintro e w4 ⟨rfl, hk4⟩
      have hR4 := Lib.hid (hRw.out.keep hk4)
      have hk4' := Lib.hid (hkw.out.trans hk4)
      have hs4 := Lib.hid hk4'.out.size
      have hp4 : Hid (∀ x ∈ xs, x.n = (fullC fs x).length ∧ (fullC fs x).length ≤ 8 ∧ RowsAt 2 peerVals w4 (.slice x.p x.n x.c) (fullC fs x)) := Lib.hid (fun x hx => by
        obtain ⟨h1, h2, h3⟩ := hpx.out x hx
        exact ⟨h1, h2, h3.keep hk4⟩)
      clear hid hRw hkw hk4 hpx
      have r3 : Hid (∀ y ∈ xs, ∀ W, Keeps (fun _ => False) w4 W → Calls Tryz.prog 57 #[.agg y.vals.toArray] W (LinksPost W (linksC fs y))) := Lib.hid (fun y hy W kW => by
        obtain ⟨h1, h2, h3⟩ := hp4.out y hy
        have h4 := standLinks_any y.s y.nm y.dr y.c y.p (fullC fs y) W (Lib.hid (by rw [← h1]; exact h3.keep kW)) (by omega)
        rw [← h1] at h4
        exact h4)
      have hro := Lib.hid (routers_any (linksC fs) me _ xs w4 hR4 hx64 r1 r2 r3)
      go_wp2_with fail
      refine hro.out.mono ?_
      rintro e w5 ⟨es, po, co, rfl, hOw, hRo, hel, hk5⟩
      have hOw5 := Lib.hid hOw
      have hRo5 := Lib.hid hRo
      have hR5 := Lib.hid (hR4.out.keep hk5)
      have hk5' := Lib.hid (hk4'.out.trans hk5)
      have hp5 : Hid (∀ x ∈ xs, x.n = (fullC fs x).length ∧ (fullC fs x).length ≤ 8 ∧ RowsAt 2 peerVals w5 (.slice x.p x.n x.c) (fullC fs x)) := Lib.hid (fun x hx => by
        obtain ⟨h1, h2, h3⟩ := hp4.out x hx
        exact ⟨h1, h2, h3.keep hk5⟩)
      clear hro hOw hRo hR4 hk5 hk4' hp4 r1 r2 r3
      have hnw := Lib.hid (networks_any (fullC fs) me _ xs w5 hR5 hx64 hp5)
      go_wp2_with fail
      refine hnw.out.mono ?_
      rintro e w6 ⟨zs, pz, cz, rfl, hOz, hz2, hNz, hk6⟩
      have hOw6 := Lib.hid (hOw5.out.keep hk6 (fun _ _ f => f))
      have hk6' := Lib.hid (hk5'.out.trans hk6)
      have hRz : Hid (RowsAt 10 OwnE.vals w6 (.slice pz zs.length cz) (zs.map (·.1))) := Lib.hid (hOz.at ownE_len)
      have hNz' := Lib.hid hNz
      have hz2' := Lib.hid hz2
      have hk56 := Lib.hid hk6
      have hzl : zs.length ≤ 64 := by
        have h1 := congrArg List.length hz2
        rw [List.length_map] at h1
        rw [h1]
        exact Nat.le_trans (List.length_filter_le _ _) hx64
      clear hR5 hk5' hk6 hp5 hnw hOz hNz hz2 hOw5
      have hlz : (zs.map (·.1)).length = zs.length := List.length_map ..
      have hel2 : es.length + (zs.map (·.1)).length ≤ 1000000000 := by omega
      have hlz' := Lib.hid hlz
      clear hlz
      go_wp2_with ((with_reducible refine at_slot 46 ?_); go_must (refine wpList_append_rows rfl (.tmp 42) (.tmp 45) 25 77 rfl i1 _ 104 Tryz.underlying25 hj0 hj1 hj2 hj3 rfl (by decide) (by decide) ownE_len ownE_one w4 (.slice po es.length co) es rfl hOw6.out (.slice pz zs.length cz) rfl (zs.map (·.1)) hRz.out hel2 ?_); intro q7 d7 w7 hO7 hg7)
      have hT6 : Hid (∀ i, (Value.slice po es.length co).ownBlock = some i → ∃ cur r, w6.heap[i]? = some (.cells cur 77 r)) := Lib.hid (fun i e => hOw6.out.type_ i e)
      have hT7 : Hid (∀ i, (Value.slice q7 (es.length + zs.length) d7).ownBlock = some i → ∃ cur r, w7.heap[i]? = some (.cells cur 77 r)) := Lib.hid (fun i e => by rw [← hlz'.out] at e; exact hO7.out.type_ i e)
      have hA7 : Hid (∀ e ∈ es, e.type = 1 ∧ e.id = me ∧ e.me = me ∧ e.mask = 0 ∧ e.p7 = none ∧ e.n7 = 0 ∧ e.c7 = 0 ∧ e.n5 = ((areaLinks (linksC fs) xs e.area).take 40).length ∧ RowsAt 4 linkVals w7 (.slice e.p5 e.n5 e.c5) ((areaLinks (linksC fs) xs e.area).take 40) ∧ (∀ i, (Value.slice e.p5 e.n5 e.c5).ownBlock = some i → ∃ cur r, w7.heap[i]? = some (.cells cur 142 r))) := Lib.hid (fun e he => by
        obtain ⟨h1, h2, h3, h4, h5, h6, h7, h8, h9⟩ := hRo5.out.e e he
        have ht := hRo5.out.t e he
        have ht6 : ∀ i, (Value.slice e.p5 e.n5 e.c5).ownBlock = some i → ∃ cur r, w6.heap[i]? = some (.cells cur 142 r) := fun i hi => ty_keep (ht i hi) hk56.out (fun _ f => f.elim) (by decide)
        exact ⟨h1, h2, h3, h4, h5, h6, h7, h8, keep_rows_ty (h9.keep hk56.out) hg7.out.k hT6.out ht6 (by decide), fun i hi => ty_keep (ht6 i hi) hg7.out.k hT6.out (by decide)⟩)
      have hB7 : Hid (∀ z ∈ zs, NetOk me (fullC fs) w5 w7 z.1 z.2) := Lib.hid (fun z hz => (hNz'.out z hz).keep hg7.out.k hT6.out)
      have hk7 := Lib.hid (hk6'.out.trans' hg7.out.k (fun i e => .inr (by
        have h1 := hOw6.out.2.1 i e
        have h2 := hs4.out
        omega)))
      have hO7' : Hid (OwnR 77 10 OwnE.vals w4 w7 (.slice q7 (es.length + zs.length) d7) (es ++ zs.map (·.1))) := Lib.hid (by have := hO7.out; rwa [hlz'.out] at this)
      have hRl := Lib.hid hRo5.out.l
      have hRn := Lib.hid hRo5.out.n
      clear hOw6 hRo5 hNz' hg7 hO7 hk56 hRz hk6' hT6
      refine (sortOwn_any _ (es ++ zs.map (·.1)) w4 w7 hO7' (by rw [List.length_append, hlz'.out]; omega)).mono ?_
      rintro e w8 ⟨rfl, S, hSp, hSs, hO8, hk8⟩
      obtain ⟨Z, hZ1, hZo, hZm, hZr⟩ := told_sorted (W := w8) (me := me) (lk := linksC fs) (pf := fullC fs) (xs := xs) (es := es) (zs := zs) (S := S) (fun e he => by
        obtain ⟨h1, h2, h3, h4, h5, h6, h7, h8, h9, h10⟩ := hA7.out e he
        refine ⟨rfl, h1, h2, h3, h4, h8, h6, keep_rows_ty h9 hk8 hT7.out h10 (by decide), ?_⟩
        rw [h5, h6, h7]
        exact nums_nil _) (fun z hz => by
        have h1 := (hB7.out z hz).keep hk8 hT7.out
        refine ⟨h1.area, h1.type, h1.id, h1.own_, h1.mask, h1.n5, h1.n7, ?_, h1.own.at⟩
        rw [h1.p5, h1.n5, h1.c5]
        exact rows_nil _) hRn.out hRl.out hz2'.out hU.out hSp hSs
      have hSl : Z.length = es.length + zs.length := by
        have h1 := hSp.length_eq
        rw [← hZ1, List.length_map, List.length_append, List.length_map] at h1
        exact h1
      have hfin : Hid (RowsAt 10 OwnE.vals w8 (.slice q7 Z.length d7) (Z.map (·.1)) ∧ (∀ z ∈ Z, OwnOf w8 z.1 z.2) ∧ (∀ d, d ∈ Z.map (·.2) ↔ IsTold me (linksC fs) (fullC fs) xs d) ∧ (Z.map (·.2)).Pairwise ltD) := Lib.hid ⟨by rw [hZ1, hSl]; exact hO8.at ownE_len, hZo, hZm, hZr⟩
      have hk8' := Lib.hid (hk7.out.trans' hk8 (fun i e => .inr (by
        have h1 := hO7'.out.2.1 i e
        have h2 := hs4.out
        omega)))
      have hSl' := Lib.hid hSl
      clear hZ1 hZo hZm hZr hSp hSs hO8 hk8 hSl hA7 hB7 hT7
      go_wp2_with fail
      go_ret2
      obtain ⟨f1, f2, f3, f4⟩ := hfin.out
      rw [hxc'.out]
      exact ⟨Z, q7, d7, by rw [hSl'.out]; rfl, f1, f2, f3, f4, hk8'.out⟩
end Go.Proofs.YtialookpnoaogaaGreat
/- Of adv: All, where nothing is told. -/
set_option linter.unusedVariables false
set_option linter.unusedSimpArgs false
namespace Go.Proofs.YtialookpnoaogaaGreat
open Go.RowKit

set_option maxRecDepth 100000 in
set_option maxHeartbeats 8000000 in
theorem advAll_rule (v fv : Value) (ls : List LineD) (w : World) (hv : Hid (RowsAt 4 lineVals w v ls)) (hr : Hid (rightC ls = true)) (hc : Hid (checkC ls ≠ [])) :
    Calls Tryz.prog 6 #[v, fv] w (NewRes (.tuple #[.slice none 0 0, .int .i64 7]) w) := by
  have hus := Lib.hid (isUsable_c _ ls false w hv hr (Lib.hid (by
    cases h : checkC ls with
    | nil => exact absurd h hc.out
    | cons a l => rfl)))
  go_enter Tryz.func6, Tryz.ntmps6
  go_wp2_with fail
  refine hus.out.mono ?_
  rintro e w1 ⟨rfl, hk1⟩
  have hk1' := Lib.hid hk1
  clear hus hk1
  go_wp2_with fail
  go_ret2
  exact ⟨rfl, hk1'.out⟩
set_option maxRecDepth 100000 in
set_option maxHeartbeats 8000000 in
theorem advAll_arg (v fv : Value) (ls : List LineD) (fs : List FaceE) (w : World) (hv : Hid (RowsAt 4 lineVals w v ls)) (hr : Hid (rightC ls = true)) (hc : Hid (checkC ls = [])) (hf : Hid (RowsAt 3 FaceE.vals w fv fs)) (hfl : fs.length ≤ 1000) (hok : Hid (¬ FacesOk (namesA 2 ls) fs)) :
    Calls Tryz.prog 6 #[v, fv] w (NewRes (.tuple #[.slice none 0 0, .int .i64 1]) w) := by
  have hus := Lib.hid (isUsable_c _ ls true w hv hr (Lib.hid (by rw [hc.out]; rfl)))
  have hnl := namesA_len 2 ls
  have hll := right_len hr.out
  obtain ⟨ns, hns⟩ : ∃ ns, namesA 2 ls = ns := ⟨_, rfl⟩
  have hns' := Lib.hid hns
  rw [hns] at hok hnl
  clear hns
  go_enter Tryz.func6, Tryz.ntmps6
  go_wp2_with fail
  refine hus.out.mono ?_
  rintro e w1 ⟨rfl, hk1⟩
  have hn1 := Lib.hid (names_all _ ls 2 w1 (Lib.hid (hv.out.keep hk1)) hr)
  rw [hns'.out] at hn1
  have hk1' := Lib.hid hk1
  clear hus hk1
  go_wp2_with fail
  refine hn1.out.mono ?_
  rintro e w2 ⟨pn, cn, rfl, hS, hk2⟩
  have hS2 := Lib.hid hS
  have hk2' := Lib.hid (hk1'.out.trans hk2)
  clear hn1 hk2 hk1' hS
  have har := Lib.hid (areOf_any _ _ ns fs false w2 hS2 (by omega) (Lib.hid (hf.out.keep hk2'.out)) (by omega) (Lib.hid ⟨fun e => (by cases e), fun e => absurd e hok.out⟩))
  go_wp2_with fail
  refine har.out.mono ?_
  rintro e w3 ⟨rfl, hk3⟩
  have hk3' := Lib.hid (hk2'.out.trans hk3)
  clear hk3 hk2' hS2 har
  go_wp2_with fail
  go_ret2
  exact ⟨rfl, hk3'.out⟩
end Go.Proofs.YtialookpnoaogaaGreat
/- Of adv: the document's insert. -/
set_option linter.unusedVariables false
set_option linter.unusedSimpArgs false
namespace Go.Proofs.YtialookpnoaogaaGreat
open Go.RowKit

theorem insN_app_lt {A : List Nat} {n : Nat} (h : ∀ z ∈ A, z < n) (B : List Nat) : insN (A ++ B) n = A ++ insN B n := by
  induction A with
  | nil => rfl
  | cons a A ih =>
    have h1 := h a List.mem_cons_self
    show (if n < a then n :: a :: (A ++ B) else if n = a then a :: (A ++ B) else a :: insN (A ++ B) n) = _
    rw [if_neg (by omega), if_neg (by omega), ih (fun z hz => h z (List.mem_cons_of_mem _ hz))]
    rfl
theorem insN_put {A : List Nat} {n : Nat} (h : ∃ z ∈ A, n < z) (hn : n ∉ A) (B : List Nat) : insN (A ++ B) n = insN A n ++ B := by
  induction A with
  | nil => obtain ⟨z, hz, -⟩ := h; cases hz
  | cons a A ih =>
    show insN (a :: (A ++ B)) n = _
    unfold insN
    by_cases h1 : n < a
    · rw [if_pos h1, if_pos h1]; rfl
    · rw [if_neg h1, if_neg h1]
      have h2 : n ≠ a := fun e => hn (by rw [e]; exact List.mem_cons_self)
      rw [if_neg h2, if_neg h2, ih ?_ (fun h => hn (List.mem_cons_of_mem _ h))]
      · rfl
      · obtain ⟨z, hz, hz2⟩ := h
        rcases List.mem_cons.1 hz with e | e
        · omega
        · exact ⟨z, e, hz2⟩
theorem insN_in {l : List Nat} {n : Nat} (h : l.Pairwise (· < ·)) (hn : n ∈ l) : insN l n = l := by
  induction l with
  | nil => cases hn
  | cons a l ih =>
    rw [List.pairwise_cons] at h
    unfold insN
    by_cases h1 : n < a
    · rcases List.mem_cons.1 hn with e | e
      · omega
      · have := h.1 n e; omega
    · rw [if_neg h1]
      by_cases h2 : n = a
      · rw [if_pos h2]
      · rw [if_neg h2]
        rcases List.mem_cons.1 hn with e | e
        · exact absurd e h2
        · rw [ih h.2 e]
theorem nums_get {w : World} {p : Option Addr} {n c : Nat} {l : List Nat} (h : NumsAt w (.slice p n c) l) {k x : Nat} (hx : l[k]? = some x) : ∃ g o, p = some ⟨g, o, none⟩ ∧ w.cell? ⟨g, o + k, none⟩ = some (.int .u32 x) := by
  obtain ⟨p2, c2, e, -, -, hr⟩ := h
  injection e with e1 e2 e3
  subst e1
  have hk := (List.getElem?_eq_some_iff.1 hx).1
  obtain ⟨g, o, rfl, hr2⟩ := hr (by omega)
  refine ⟨g, o, rfl, hr2 k _ ?_⟩
  rw [List.getElem?_map, hx]; rfl
/-- what the document's insert has behind it -/
def InsS (l : List Nat) (n i : Nat) (put : Bool) (out : List Nat) : Prop :=
  n ∉ l.take i ∧ (put = false ∧ out = l.take i ∧ (∀ z ∈ l.take i, z < n) ∨ put = true ∧ out = insN (l.take i) n ∧ ∃ z ∈ l.take i, n < z)
theorem ins_start (l : List Nat) (n : Nat) : InsS l n 0 false [] := ⟨by simp, .inl ⟨rfl, by simp, by simp⟩⟩
theorem ins_below {l : List Nat} {n i x : Nat} {out : List Nat} (h : InsS l n i false out) (hx : l[i]? = some x) (hlt : x < n) : InsS l n (i + 1) false (out ++ [x]) := by
  obtain ⟨h1, h | ⟨h, -⟩⟩ := h
  · obtain ⟨-, rfl, h3⟩ := h
    have e : l.take (i + 1) = l.take i ++ [x] := by rw [List.take_add_one, hx]; rfl
    refine ⟨?_, .inl ⟨rfl, e.symm, ?_⟩⟩
    · rw [e]; simp only [List.mem_append, List.mem_singleton, not_or]; exact ⟨h1, by omega⟩
    · rw [e]; intro z hz
      rcases List.mem_append.1 hz with hz | hz
      · exact h3 z hz
      · rw [List.mem_singleton] at hz; omega
  · cases h
theorem ins_here {l : List Nat} {n i x : Nat} {out : List Nat} (h : InsS l n i false out) (hx : l[i]? = some x) (hlt : n < x) : InsS l n (i + 1) true (out ++ [n] ++ [x]) := by
  obtain ⟨h1, h | ⟨h, -⟩⟩ := h
  · obtain ⟨-, rfl, h3⟩ := h
    have e : l.take (i + 1) = l.take i ++ [x] := by rw [List.take_add_one, hx]; rfl
    refine ⟨?_, .inr ⟨rfl, ?_, ?_⟩⟩
    · rw [e]; simp only [List.mem_append, List.mem_singleton, not_or]; exact ⟨h1, by omega⟩
    · rw [e, insN_app_lt h3]
      unfold insN
      rw [if_pos hlt]; simp
    · rw [e]; exact ⟨x, by simp, hlt⟩
  · cases h
theorem ins_after {l : List Nat} {n i x : Nat} {out : List Nat} (hr : l.Pairwise (· < ·)) (h : InsS l n i true out) (hx : l[i]? = some x) (hne : x ≠ n) : InsS l n (i + 1) true (out ++ [x]) := by
  obtain ⟨h1, ⟨h, -⟩ | h⟩ := h
  · cases h
  · obtain ⟨-, rfl, h3⟩ := h
    have e : l.take (i + 1) = l.take i ++ [x] := by rw [List.take_add_one, hx]; rfl
    refine ⟨?_, .inr ⟨rfl, ?_, ?_⟩⟩
    · rw [e]; simp only [List.mem_append, List.mem_singleton, not_or]; exact ⟨h1, fun e => hne e.symm⟩
    · rw [e, insN_put h3 h1]
    · obtain ⟨z, hz, hz2⟩ := h3
      rw [e]; exact ⟨z, List.mem_append_left _ hz, hz2⟩
theorem ins_end {l : List Nat} {n : Nat} {put : Bool} {out : List Nat} (h : InsS l n l.length put out) : insN l n = if put then out else out ++ [n] := by
  unfold InsS at h
  rw [List.take_length] at h
  obtain ⟨h1, ⟨rfl, rfl, h3⟩ | ⟨rfl, rfl, h3⟩⟩ := h
  · have := insN_app_lt h3 []
    rw [List.append_nil] at this
    rw [this]; rfl
  · rfl
set_option maxRecDepth 100000 in
set_option maxHeartbeats 8000000 in
theorem ref15Insert_c (v : Value) (l : List Nat) (n : Nat) (w : World) (hv : Hid (NumsAt w v l)) (hr : Hid (l.Pairwise (· < ·))) (hl : l.length ≤ 1000) :
    Calls Tryz.prog 31 #[v, .int .u32 n] w fun e w' => ∃ p c, e = .returned (.slice p (insN l n).length c) ∧ NumsAt w' (.slice p (insN l n).length c) (insN l n) ∧ Keeps (fun _ => False) w w' ∧ ∀ i, (Value.slice p (insN l n).length c).ownBlock = some i → v.ownBlock = some i ∨ w.heap.size ≤ i := by
  obtain ⟨p, c, e0, hp0, hc0, hr0⟩ := hv.out
  subst e0
  obtain ⟨i0, hi0, hz0, hz1, hz2⟩ := info_parts u32InfoAll
  clear hp0 hc0 hr0
  go_enter Tryz.func31, Tryz.ntmps31
  go_wp2_with fail
  have hO0 : Hid (OwnN w w (.slice none 0 0) []) := Lib.hid (OwnN.nil _ _ (Nat.le_refl _))
  go_loopw [7, 5, 6] (fun iv ov pv wr => ∃ (i : Nat) (put : Bool) (out : List Nat) (q : Option Addr) (d : Nat), i ≤ l.length ∧ out.length ≤ 2 * i ∧ iv = .int .i64 i ∧ ov = .slice q out.length d ∧ pv = .bool put ∧ Hid (InsS l n i put out) ∧ Hid (OwnN w wr (.slice q out.length d) out) ∧ Hid (Keeps (fun _ => False) w wr)) (fun iv _ _ _ => l.length - (intOf iv).toNat)
  case atStart => exact ⟨0, false, [], none, 0, by omega, by simp, rfl, rfl, rfl, Lib.hid (ins_start l n), hO0, Lib.hid (Keeps.refl _ _)⟩
  case round =>
    obtain ⟨i, put, out, q, d, hi, hol, rfl, rfl, rfl, hS, hO, hK⟩ := hrel
    by_cases hil : i < l.length
    · obtain ⟨x, hx⟩ : ∃ x, l[i]? = some x := ⟨_, List.getElem?_eq_getElem hil⟩
      obtain ⟨g, o, rfl, hcell⟩ := nums_get hv.out hx
      have hg := World.block_lt_of_cell? _ _ hcell
      have hcr := (hK.out.cell (p := ⟨g, o + i, none⟩) hg id).trans hcell
      have m1 : (0 : Int) ≤ (i : Int) := by omega
      have m2 : (i : Int) < (l.length : Int) := by omega
      by_cases hxn : x = n
      · have z1 : ((x : Int) == (n : Int)) = true := by simp [hxn]
        have hin := insN_in hr.out (show n ∈ l by rw [← hxn]; exact List.mem_of_getElem? hx)
        clear hxn
        go_wp2_with fail
        go_ret
        exact ⟨_, c, rfl, hv.out.keepF hK.out (fun _ _ _ f => f), hK.out, fun i e => .inl e⟩
      · have z1 : ((x : Int) == (n : Int)) = false := by simp; omega
        have hx' := Lib.hid hx
        have hxn' := Lib.hid hxn
        clear hx hxn
        cases put with
        | false =>
          by_cases hlt : n < x
          · have z2 : (n : Int) < (x : Int) := by omega
            have hS2 := Lib.hid (ins_here hS.out hx'.out hlt)
            have kc := (Keeps.refl (fun _ => False) wr).alloc (.cells #[.int .u32 n] 40)
            have hAc := Lib.hid (hO.out.keep kc (fun _ _ f => f))
            have hKc := Lib.hid (hK.out.trans kc)
            have hbn := Lib.hid (BlkAt.new wr 40 [nv n])
            have hcell' := Lib.hid hcell
            clear kc hS hO hlt hcell
            go_wp2_with (first | ((with_reducible refine at_slot 34 ?_); refine wpList_append_one rfl (.tmp 31) (.tmp 33) 73 rfl i0 Tryz.underlying73 hi0 hz0 hz1 hz2 w (.slice q out.length d) out.length out rfl rfl hAc.out _ rfl n hbn.out (by omega) ?_; intro q8 d8 w6 hA6 hg6; have hK6 := Lib.hid (hKc.out.trans' hg6.out.k (fun i e => .inr (hAc.out.2.1 i e))); have hcr6 := (hK6.out.cell (p := ⟨g, o + i, none⟩) hg id).trans hcell'.out; have kd := (Keeps.refl (fun _ => False) w6).alloc (.cells #[.int .u32 x] 40); have hAd := Lib.hid (hA6.out.keep kd (fun _ _ f => f)); have hKd := Lib.hid (hK6.out.trans kd); have hbd := Lib.hid (BlkAt.new w6 40 [nv x]); clear kd hA6 hg6 hK6 hAc hKc hbn) | ((with_reducible refine at_slot 41 ?_); refine wpList_append_one rfl (.tmp 35) (.tmp 40) 73 rfl i0 Tryz.underlying73 hi0 hz0 hz1 hz2 w (.slice q8 (out.length + 1) d8) (out.length + 1) (out ++ [n]) (by simp) rfl hAd.out _ rfl x hbd.out (by omega) ?_; intro q9 d9 w9 hA9 hg9))
            have hK9 := Lib.hid (hKd.out.trans' hg9.out.k (fun i e => .inr (hAd.out.2.1 i e)))
            exact ⟨⟨i + 1, true, out ++ [n] ++ [x], q9, d9, by omega, by simp; omega, by go_num, by simp, rfl, hS2, by simpa using hA9, hK9⟩, by simp [intOf]; omega⟩
          · have z2 : ¬ (n : Int) < (x : Int) := by omega
            have hS2 := Lib.hid (ins_below hS.out hx'.out (by have := hxn'.out; omega))
            have kd := (Keeps.refl (fun _ => False) wr).alloc (.cells #[.int .u32 x] 40)
            have hAd := Lib.hid (hO.out.keep kd (fun _ _ f => f))
            have hKd := Lib.hid (hK.out.trans kd)
            have hbd := Lib.hid (BlkAt.new wr 40 [nv x])
            clear kd hS hO
            go_wp2_with ((with_reducible refine at_slot 41 ?_); refine wpList_append_one rfl (.tmp 35) (.tmp 40) 73 rfl i0 Tryz.underlying73 hi0 hz0 hz1 hz2 w (.slice q out.length d) out.length out rfl rfl hAd.out _ rfl x hbd.out (by omega) ?_; intro q8 d8 w6 hA6 hg6)
            have hK6 := Lib.hid (hKd.out.trans' hg6.out.k (fun i e => .inr (hAd.out.2.1 i e)))
            exact ⟨⟨i + 1, false, out ++ [x], q8, d8, by omega, by simp; omega, by go_num, by simp, rfl, hS2, by simpa using hA6, hK6⟩, by simp [intOf]; omega⟩
        | true =>
          have hS2 := Lib.hid (ins_after hr.out hS.out hx'.out hxn'.out)
          have kd := (Keeps.refl (fun _ => False) wr).alloc (.cells #[.int .u32 x] 40)
          have hAd := Lib.hid (hO.out.keep kd (fun _ _ f => f))
          have hKd := Lib.hid (hK.out.trans kd)
          have hbd := Lib.hid (BlkAt.new wr 40 [nv x])
          clear kd hS hO
          go_wp2_with ((with_reducible refine at_slot 41 ?_); refine wpList_append_one rfl (.tmp 35) (.tmp 40) 73 rfl i0 Tryz.underlying73 hi0 hz0 hz1 hz2 w (.slice q out.length d) out.length out rfl rfl hAd.out _ rfl x hbd.out (by omega) ?_; intro q8 d8 w6 hA6 hg6)
          have hK6 := Lib.hid (hKd.out.trans' hg6.out.k (fun i e => .inr (hAd.out.2.1 i e)))
          exact ⟨⟨i + 1, true, out ++ [x], q8, d8, by omega, by simp; omega, by go_num, by simp, rfl, hS2, by simpa using hA6, hK6⟩, by simp [intOf]; omega⟩
    · obtain rfl : i = l.length := by omega
      have he := Lib.hid (ins_end hS.out)
      cases put with
      | true =>
        go_wp2_with fail
        go_ret
        have he' : insN l n = out := he.out
        rw [he']
        exact ⟨q, d, rfl, hO.out.at, hK.out, fun i e => .inr (hO.out.2.1 i e)⟩
      | false =>
        have kd := (Keeps.refl (fun _ => False) wr).alloc (.cells #[.int .u32 n] 40)
        have hAd := Lib.hid (hO.out.keep kd (fun _ _ f => f))
        have hKd := Lib.hid (hK.out.trans kd)
        have hbd := Lib.hid (BlkAt.new wr 40 [nv n])
        clear kd hS hO
        go_wp2_with ((with_reducible refine at_slot 47 ?_); refine wpList_append_one rfl (.tmp 44) (.tmp 46) 73 rfl i0 Tryz.underlying73 hi0 hz0 hz1 hz2 w (.slice q out.length d) out.length out rfl rfl hAd.out _ rfl n hbd.out (by omega) ?_; intro q8 d8 w6 hA6 hg6)
        go_ret
        have he' : insN l n = out ++ [n] := he.out
        rw [he']
        refine ⟨q8, d8, by simp, by have := hA6.out.at; simpa using this, hKd.out.trans' hg6.out.k (fun i e => .inr (hAd.out.2.1 i e)), fun i e => .inr (hA6.out.2.1 i (by cases q8 <;> exact e))⟩
end Go.Proofs.YtialookpnoaogaaGreat
/- Of adv: the document's Id. -/
set_option linter.unusedVariables false
set_option linter.unusedSimpArgs false
namespace Go.Proofs.YtialookpnoaogaaGreat
open Go.RowKit

set_option maxRecDepth 100000 in
set_option maxHeartbeats 8000000 in
theorem ref15Id_c (v : Value) (ls : List LineD) (w : World) (hv : Hid (RowsAt 4 lineVals w v ls)) (hr : Hid (rightC ls = true)) (m : Nat) (hm : Hid ((addrL (valueR ls 0 [] [114, 111, 117, 116, 101, 114, 45, 105, 100])).getD 0 = m)) :
    Calls Tryz.prog 14 #[v] w (NewRes (.int .u32 m) w) := by
  obtain ⟨p, c, rfl⟩ := hv.out.slice
  have hll := right_len hr.out
  obtain ⟨V, hV⟩ : ∃ V : ByteArray, V = ⟨(valueR ls 0 [] [114, 111, 117, 116, 101, 114, 45, 105, 100]).toArray⟩ := ⟨_, rfl⟩
  have hlt := Lib.hid (right_lt hr.out 8796093022000 (by omega))
  have hva := Lib.hid (rValue_c _ ls 0 ⟨#[]⟩ ⟨#[114, 111, 117, 116, 101, 114, 45, 105, 100]⟩ V w hv hlt hll hr (Lib.hid hV))
  obtain ⟨r1, hr1⟩ : ∃ r, addrL (valueR ls 0 [] [114, 111, 117, 116, 101, 114, 45, 105, 100]) = r := ⟨_, rfl⟩
  have hAd : Hid (∀ W, Calls Tryz.prog 38 #[.string V] W (NewRes (.tuple #[.int .u32 (r1.getD 0 : Nat), .bool r1.isSome]) W)) := Lib.hid (fun W => by
    have h := rAddr_r V r1 W (by
      rw [hV]
      have h := valueR_hundred hr.out 0 [] [114, 111, 117, 116, 101, 114, 45, 105, 100]
      show (valueR ls 0 [] _).toArray.size ≤ _
      simp; omega) (Lib.hid (by rw [hV]; exact hr1))
    cases r1 <;> exact h)
  have hm' : Hid (r1.getD 0 = m) := Lib.hid (by rw [← hr1]; exact hm.out)
  clear hV hr1
  rw [hm'.out] at hAd
  go_enter Tryz.func14, Tryz.ntmps14
  go_wp2_with fail
  refine hva.out.mono ?_
  rintro e w1 ⟨rfl, hk1⟩
  have hk1' := Lib.hid hk1
  clear hva hk1
  go_wp2_with fail
  refine (hAd.out _).mono ?_
  rintro e w2 ⟨rfl, hk2⟩
  have hk2' := Lib.hid (hk1'.out.trans hk2)
  clear hAd hk2 hk1'
  go_wp2_with fail
  go_ret
  exact ⟨rfl, hk2'.out⟩
end Go.Proofs.YtialookpnoaogaaGreat
