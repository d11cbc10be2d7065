/- lsa.readLinks, walked. -/
import Derived.Test.YtialookpnoaogaaGreatAA11
import Derived.Carry
import Derived.Test.YtialookpnoaogaaGreatAA07
import Derived.Test.YtialookpnoaogaaGreatAA04
import Derived.Test.YtialookpnoaogaaGreatAA08
import Derived.Lib.SliceRun
set_option linter.unusedVariables false
set_option linter.unusedSimpArgs false
namespace Go.Proofs.YtialookpnoaogaaGreat
open Go.RowKit

theorem linkInfoAll : (Tryz.prog.info? 142).map (fun i => (i.zero, i.size, i.bytes)) = some (some (.agg #[.int .u32 0, .int .u32 0, .int .i64 0, .int .i64 0]), 4, 24) := by kernel_rfl
def linkCells (ls : List LinkD) : List Value := ls.flatMap linkVals
theorem linkCells_len (ls : List LinkD) : (linkCells ls).length = ls.length * 4 := by
  induction ls with
  | nil => rfl
  | cons n ns ih => unfold linkCells at *; rw [List.flatMap_cons, List.length_append, ih, List.length_cons]; simp [linkVals]; omega
theorem linkCells_snoc (ls : List LinkD) (l : LinkD) : linkCells (ls ++ [l]) = linkCells ls ++ linkVals l := by unfold linkCells; simp
theorem linkCells_get (ls : List LinkD) : ∀ (i : Nat) (l : LinkD), ls[i]? = some l → ∀ j, j < 4 → (linkCells ls)[i * 4 + j]? = (linkVals l)[j]? := by
  induction ls with
  | nil => intro i l h; simp at h
  | cons n ns ih =>
    intro i l h j hj
    have e : linkCells (n :: ns) = linkVals n ++ linkCells ns := by unfold linkCells; rw [List.flatMap_cons]
    have h4 : (linkVals n).length = 4 := rfl
    rw [e, List.getElem?_append, h4]
    cases i with
    | zero => simp at h; subst h; rw [if_pos (by omega)]; simp
    | succ i => rw [if_neg (by omega)]; rw [← ih i l (by simpa using h) j hj]; congr 1; omega
/-- links of the call's own -/
def OwnL (w0 w : World) (v : Value) (ls : List LinkD) : Prop :=
  w.ownsRow 0 142 4 v ls.length (linkCells ls) ∧ (∀ k, v.ownBlock = some k → w0.heap.size ≤ k) ∧ w0.heap.size ≤ w.heap.size
theorem OwnL.nil (w0 w : World) (h : w0.heap.size ≤ w.heap.size) : OwnL w0 w (.slice none 0 0) [] := ⟨⟨rfl, .inl ⟨rfl, rfl⟩⟩, by simp [Value.ownBlock], h⟩
theorem OwnL.slice {w0 w : World} {v : Value} {xs : List LinkD} (h : OwnL w0 w v xs) : ∃ p c, v = .slice p xs.length c := ownsRow_slice h.1
theorem OwnL.keep {F : Nat → Prop} {w0 w w' : World} {v : Value} {xs : List LinkD} (h : OwnL w0 w v xs) (k : Keeps F w w') (hF : ∀ i, v.ownBlock = some i → ¬ F i) : OwnL w0 w' v xs :=
  ⟨k.ownsRow h.1 hF, h.2.1, Nat.le_trans h.2.2 k.size⟩
theorem OwnL.at {w0 w : World} {v : Value} {x : List LinkD} (h : OwnL w0 w v x) : LinksAt w v x := by
  obtain ⟨p, c, rfl⟩ := h.slice
  rcases h.1.2 with ⟨e, h2⟩ | ⟨g, cap, cur, he, _, _, hle, _⟩
  · injection e with e1 e2 e3; subst e1; subst e3
    exact ⟨none, 0, rfl, fun _ => rfl, by omega, fun h0 => by omega⟩
  · injection he with e1 e2 e3
    subst e1; subst e3
    refine ⟨_, _, rfl, fun h => (by cases h), hle, fun h0 => ⟨g, 0, rfl, fun i l hl j u hu => ?_⟩⟩
    have hj : j < 4 := by have := (List.getElem?_eq_some_iff.1 hu).1; simpa [linkVals] using this
    have := h.1.cells (g := g) rfl (i * 4 + j) u (by rw [linkCells_get x i l hl j hj]; exact hu)
    rw [Addr.add_mid] at this
    rw [Nat.zero_add]; rw [Nat.zero_add] at this; exact this
theorem OwnL.push {w0 wb w1 : World} {v : Value} {xs : List LinkD} (h : OwnL w0 wb v xs) (x : LinkD) {p : Option Addr} {c : Nat}
    (ho : wb.grownBy w1 v.ownBlock) (h2 : w1.ownsRow 0 142 4 (.slice p (xs.length + 1) c) (xs.length + 1) (linkCells xs ++ linkVals x))
    (hs : ∀ k, (Value.slice p (xs.length + 1) c).ownBlock = some k → v.ownBlock = some k ∨ wb.heap.size ≤ k) (hk : Keeps (fun _ => False) w0 wb) :
    OwnL w0 w1 (.slice p (xs.length + 1) c) (xs ++ [x]) ∧ Keeps (fun _ => False) w0 w1 := by
  refine ⟨⟨by rw [linkCells_snoc]; simpa using h2, fun k e => ?_, Nat.le_trans h.2.2 ho.size⟩, hk.grown ho (fun k e => .inr (h.2.1 k e))⟩
  rcases hs k e with e | e
  · exact h.2.1 k e
  · exact Nat.le_trans h.2.2 e
theorem linkVals_one (l : LinkD) : ∀ u ∈ linkVals l, u.oneCell' = true := by
  intro u hu; simp [linkVals] at hu; rcases hu with rfl | rfl | rfl | rfl <;> rfl
/-- a link behind links of the call's own: one operation -/
theorem wp_append_l {P : Program} {w : World} {o : Oper} {a : Act} {K : Act → World → Prop} {Q : Exit → Act → World → Prop} (s x : Operand) (t : TypeId)
    (ho : o.op = .call { callee := .builtin .append, args := #[s, x], argTypes := #[t, t] })
    (i : TypeInfo) (ht : P.underlying t = some (.slice 142)) (hi : P.info? 142 = some i) (hz : i.zero = some (.agg #[.int .u32 0, .int .u32 0, .int .i64 0, .int .i64 0])) (hsize : i.size = 4) (hby : i.bytes = 24)
    (w0 : World) (v : Value) (n : Nat) (xs : List LinkD) (hn : xs.length = n) (hs : a.eval s = v) (hown : OwnL w0 w v xs) (ad : Addr) (hx : a.eval x = .slice (some ad) 1 1) (l : LinkD) (hl : ∀ j u, (linkVals l)[j]? = some u → w.cell? (ad.add j) = some u) (hsz : n ≤ 1000000000)
    (h : ∀ p c w', OwnL w0 w' (.slice p (n + 1) c) (xs ++ [l]) → Grown w v p (n + 1) c w' → K (a.put o.dst (.slice p (n + 1) c)) w') : Oper.wp P o a w K Q := by
  subst hn
  obtain ⟨v', w', hr, h2, h3, h4⟩ := run_append_sep (P := P) w t o.type 142 i (.agg #[.int .u32 0, .int .u32 0, .int .i64 0, .int .i64 0]) 4 24 ht hi hz hsize hby rfl (by decide) v xs.length (linkCells xs) hown.1 ad 1 1 (linkVals l) rfl hl (linkVals_one l) (by unfold maxLen; omega) (by omega)
  obtain ⟨p, c, rfl⟩ := ownsRow_slice h2
  unfold Oper.wp execOp
  simp only [ho, resolve, invoke, builtin, Sem.run_bind, Sem.run_pure, Result.andThen_ok, List.map_toArray, List.map_cons, List.map_nil, hs, hx, hr]
  refine h p c w' ⟨by rw [linkCells_snoc]; simpa using h2, fun k e => ?_, Nat.le_trans hown.2.2 h3.size⟩ ⟨(Keeps.refl _ _).grown h3 (fun k e => .inl e), h4⟩
  rcases h4 k e with e | e
  · exact hown.2.1 k e
  · exact Nat.le_trans hown.2.2 e
def linkAt (l : List UInt8) (k : Nat) : LinkD := ⟨beVal (sub l k 4), beVal (sub l (k + 4) 4), ((l.getD (k + 8) 0).toNat : Int), (beVal (sub l (k + 10) 2) : Nat)⟩
def readL (l : List UInt8) (j : Nat) : List LinkD := (List.range j).map fun i => linkAt l (12 * i)
theorem readL_len (l : List UInt8) (j : Nat) : (readL l j).length = j := by unfold readL; simp
theorem readL_succ (l : List UInt8) (j : Nat) : readL l (j + 1) = readL l j ++ [linkAt l (12 * j)] := by unfold readL; simp [List.range_succ]
end Go.Proofs.YtialookpnoaogaaGreat
/- Of adv: routers. -/
set_option linter.unusedVariables false
set_option linter.unusedSimpArgs false
namespace Go.Proofs.YtialookpnoaogaaGreat
open Go.RowKit

theorem linkAll15 : ∃ i, Tryz.prog.info? 142 = some i ∧ i.zero = some (.agg #[.int .u32 0, .int .u32 0, .int .i64 0, .int .i64 0]) ∧ i.size = 4 ∧ i.bytes = 24 := by
  have h := linkInfoAll
  cases e : Tryz.prog.info? 142 with
  | none => rw [e] at h; cases h
  | some i =>
    rw [e] at h
    simp only [Option.map_some, Option.some.injEq, Prod.mk.injEq] at h
    exact ⟨i, rfl, h.1, h.2.1, h.2.2⟩
theorem ownAll15 : ∃ i, Tryz.prog.info? 77 = some i ∧ i.zero = some (.agg #[.int .u32 0, .int .i64 0, .int .i64 0, .int .u32 0, .int .u32 0, .int .i64 0, .slice none 0 0, .int .u32 0, .slice none 0 0, .int .i64 0]) ∧ i.size = 10 ∧ i.bytes = 104 := by
  have h : (Tryz.prog.info? 77).map (fun i => (i.zero, i.size, i.bytes)) = some (some (.agg #[.int .u32 0, .int .i64 0, .int .i64 0, .int .u32 0, .int .u32 0, .int .i64 0, .slice none 0 0, .int .u32 0, .slice none 0 0, .int .i64 0]), 10, 104) := by kernel_rfl
  cases e : Tryz.prog.info? 77 with
  | none => rw [e] at h; cases h
  | some i =>
    rw [e] at h
    simp only [Option.map_some, Option.some.injEq, Prod.mk.injEq] at h
    exact ⟨i, rfl, h.1, h.2.1, h.2.2⟩
/-- an Lsa of ours in memory -/
structure OwnE where
  area : Nat
  type : Int
  id : Nat
  me : Nat
  p5 : Option Addr
  n5 : Nat
  c5 : Nat
  mask : Nat
  p7 : Option Addr
  n7 : Nat
  c7 : Nat
def OwnE.vals (e : OwnE) : List Value := [.int .u32 e.area, .int .i64 0, .int .i64 e.type, .int .u32 e.id, .int .u32 e.me, .int .i64 (-2147483647), .slice e.p5 e.n5 e.c5, .int .u32 e.mask, .slice e.p7 e.n7 e.c7, .int .i64 0]
theorem ownE_len (e : OwnE) : e.vals.length = 10 := rfl
theorem ownE_one (e : OwnE) : ∀ u ∈ e.vals, u.oneCell' = true := by
  intro u hu
  simp only [OwnE.vals, List.mem_cons, List.not_mem_nil, or_false] at hu
  rcases hu with rfl | rfl | rfl | rfl | rfl | rfl | rfl | rfl | rfl | rfl <;> rfl
theorem MapL.apart {F : Nat → Prop} {w0 W W' : World} {r ir : Nat} {lk : StandR → List LinkD} {xs : List StandR} {K : UMap} (h : MapL w0 W r lk xs K) (k : Keeps F W W') (hF : ∀ i, F i → ir ≤ i) (h1 : r < ir) (h2 : w0.heap.size ≤ ir) (h3 : ∀ a v i, K a = some v → v.ownBlock = some i → i < ir) : MapL w0 W' r lk xs K :=
  ⟨h.u.keep k (fun e => by have := hF r e; omega), h.h, fun a v e => (h.o a v e).keep k (fun i e2 e3 => by have := h3 a v i e e2; have := hF i e3; omega), h.d, h.k.trans' k (fun i e => .inr (by have := hF i e; omega))⟩
/-- what has been told of the map so far: L tells what is left -/
structure TellR (me : Nat) (lk : StandR → List LinkD) (xs : List StandR) (K : UMap) (L : Nat → Bool) (es : List OwnE) : Prop where
  e : ∀ e ∈ es, e.type = 1 ∧ e.id = me ∧ e.me = me ∧ e.mask = 0 ∧ e.p7 = none ∧ e.n7 = 0 ∧ e.c7 = 0 ∧ e.n5 = min (areaLinks lk xs e.area).length 40 ∧ K e.area = some (.slice e.p5 (areaLinks lk xs e.area).length e.c5)
  n : (es.map (·.area)).Nodup
  l : ∀ a, (K a).isSome = (L a || (es.map (·.area)).contains a)
  s : ∀ a, L a = true → ¬ a ∈ es.map (·.area)
theorem TellR.start (me : Nat) (lk : StandR → List LinkD) (xs : List StandR) (K : UMap) : TellR me lk xs K (fun a => (K a).isSome) [] := ⟨fun e h => (by cases h), by simp, fun a => by simp, fun a _ h => (by cases h)⟩
theorem TellR.step {me : Nat} {lk : StandR → List LinkD} {xs : List StandR} {K : UMap} {L : Nat → Bool} {es : List OwnE} (h : TellR me lk xs K L es) {a : Nat} (ha : L a = true) {p : Option Addr} {c : Nat} (hk : K a = some (.slice p (areaLinks lk xs a).length c)) :
    TellR me lk xs K (fun z => L z && !decide (z = a)) (es ++ [⟨a, 1, me, me, p, min (areaLinks lk xs a).length 40, c, 0, none, 0, 0⟩]) := by
  have hna := h.s a ha
  refine ⟨fun e he => ?_, ?_, fun z => ?_, fun z hz hm => ?_⟩
  · rcases List.mem_append.1 he with he | he
    · exact h.e e he
    · rw [List.mem_singleton] at he
      subst he
      exact ⟨rfl, rfl, rfl, rfl, rfl, rfl, rfl, rfl, hk⟩
  · rw [List.map_append, List.nodup_append]
    refine ⟨h.n, by simp, fun x hx y hy e => ?_⟩
    simp only [List.map_cons, List.map_nil, List.mem_singleton] at hy
    rw [e, hy] at hx
    exact hna hx
  · rw [h.l z, List.map_append]
    by_cases hz : z = a
    · subst hz; simp [ha]
    · simp [hz]
  · simp only [Bool.and_eq_true, Bool.not_eq_true', decide_eq_false_iff_not] at hz
    rw [List.map_append, List.mem_append] at hm
    rcases hm with hm | hm
    · exact h.s z hz.1 hm
    · simp only [List.map_cons, List.map_nil, List.mem_singleton] at hm
      exact hz.2 hm
theorem OwnR.type_ {α : Type} {t : TypeId} {sz : Nat} {cv : α → List Value} {w0 w : World} {v : Value} {xs : List α} (h : OwnR t sz cv w0 w v xs) (k : Nat) (e : v.ownBlock = some k) : ∃ cur r, w.heap[k]? = some (.cells cur t r) := by
  rcases h.1.2 with ⟨e1, -⟩ | ⟨g, cap, cur, e1, -, hg, -⟩
  · rw [e1] at e; cases e
  · rw [e1] at e
    injection e with e
    subst e
    exact ⟨_, _, hg⟩
/-- what routers tells -/
structure Routers (me : Nat) (lk : StandR → List LinkD) (xs : List StandR) (w : World) (es : List OwnE) : Prop where
  e : ∀ e ∈ es, e.type = 1 ∧ e.id = me ∧ e.me = me ∧ e.mask = 0 ∧ e.p7 = none ∧ e.n7 = 0 ∧ e.c7 = 0 ∧ e.n5 = ((areaLinks lk xs e.area).take 40).length ∧ RowsAt 4 linkVals w (.slice e.p5 e.n5 e.c5) ((areaLinks lk xs e.area).take 40)
  n : (es.map (·.area)).Nodup
  l : ∀ a, a ∈ es.map (·.area) ↔ ∃ x ∈ xs, x.s.area = a
  t : ∀ e ∈ es, ∀ i, (Value.slice e.p5 e.n5 e.c5).ownBlock = some i → ∃ cur r, w.heap[i]? = some (.cells cur 142 r)
def LinksPost (w : World) (ls : List LinkD) (e : Ending) (w' : World) : Prop := ∃ p c, e = .returned (.slice p ls.length c) ∧ RowsAt 4 linkVals w' (.slice p ls.length c) ls ∧ Keeps (fun _ => False) w w'
set_option maxRecDepth 100000 in
set_option maxHeartbeats 8000000 in
theorem routers_any (lk : StandR → List LinkD) (me : Nat) (v : Value) (xs : List StandR) (w : World) (hv : Hid (RowsAt 13 StandR.vals w v xs)) (hl : xs.length ≤ 64) (hll : Hid (∀ x ∈ xs, (lk x).length ≤ 9)) (ha : Hid (∀ x ∈ xs, x.s.area < 4294967296))
    (hlk : Hid (∀ x ∈ xs, ∀ W, Keeps (fun _ => False) w W → Calls Tryz.prog 57 #[.agg x.vals.toArray] W (LinksPost W (lk x)))) :
    Calls Tryz.prog 23 #[.int .u32 me, v] w fun e w' => ∃ (es : List OwnE) (p : Option Addr) (c : Nat), e = .returned (.slice p es.length c) ∧ OwnR 77 10 OwnE.vals w w' (.slice p es.length c) es ∧ Routers me lk xs w' es ∧ es.length ≤ 64 ∧ Keeps (fun _ => False) w w' := by
  obtain ⟨p, c, rfl⟩ := hv.out.slice
  obtain ⟨i1, hj0, hj1, hj2, hj3⟩ := ownAll15
  obtain ⟨i0, hi0, hi1, hi2, hi3⟩ := linkAll15
  have hmm := @run_makeMap Tryz.prog
  go_enter Tryz.func23, Tryz.ntmps23
  go_wp2_with fail
  have hM0 : Hid (MapL (w.alloc (.map #[] 0)) (w.alloc (.map #[] 0)) w.heap.size lk [] (fun _ => none)) := Lib.hid ⟨UAt.new w, fun a => rfl, fun a v e => (by cases e), fun a b va vb k e => (by cases e), Keeps.refl _ _⟩
  have hr0 : Hid (w.heap.size < (w.alloc (.map #[] 0)).heap.size ∧ Keeps (fun _ => False) w (w.alloc (.map #[] 0))) := Lib.hid ⟨by simp, (Keeps.refl _ _).alloc _⟩
  generalize hWm : w.alloc (.map #[] 0) = Wm at hM0 hr0 ⊢
  clear hWm
  obtain ⟨r, hr⟩ : ∃ r, w.heap.size = r := ⟨_, rfl⟩
  rw [hr] at hM0 hr0 ⊢
  have hr' := Lib.hid hr
  clear hr
  go_loopw [14] (fun iv wr => ∃ (k : Nat) (KM : UMap), k ≤ xs.length ∧ iv = .int .i64 k ∧ Hid (MapL Wm wr r lk (xs.take k) KM)) (fun iv _ => xs.length - (intOf iv).toNat)
  case atStart => exact ⟨0, _, by omega, rfl, hM0⟩
  case round =>
    obtain ⟨k, KM, hk, rfl, hM⟩ := hrel
    by_cases hlx : k < xs.length
    · obtain ⟨x, hx⟩ : ∃ x, xs[k]? = some x := ⟨_, List.getElem?_eq_getElem hlx⟩
      have hm := List.mem_of_getElem? hx
      obtain ⟨g, o, rfl, hrow0⟩ := hv.out.open (by omega)
      have hkw : Hid (Keeps (fun _ => False) w wr) := Lib.hid (hr0.out.2.trans' hM.out.k (fun i e => .inr (by rw [e, hr'.out]; exact Nat.le_refl _)))
      have hrow := Lib.hid (hkw.out.rangeAt (hrow0 k x hx) id)
      have hx' := Lib.hid hx
      have hta : Hid (xs.take (k + 1) = xs.take k ++ [x]) := Lib.hid (by rw [List.take_add_one, hx]; rfl)
      have hlkx := Lib.hid (hlk.out x hm)
      have har := ha.out x hm
      have hlx9 : (lk x).length ≤ 9 := hll.out x hm
      have hln9 := areaLinks_len lk (xs.take k) x.s.area (fun y hy => hll.out y (List.mem_of_mem_take hy))
      rw [List.length_take, Nat.min_eq_left hk] at hln9
      obtain ⟨ar, har0⟩ : ∃ a, x.s.area = a := ⟨_, rfl⟩
      have e0 : x.vals[0]? = some (.int .u32 ar) := by rw [← har0]; rfl
      obtain ⟨L, hL⟩ : ∃ L, x.vals = L := ⟨_, rfl⟩
      rw [hL] at hrow hlkx e0
      have hLl : L.length = 13 := by rw [← hL]; rfl
      have hi : Hid ((Tryz.prog.info? 67).map (·.size) = some L.length) := Lib.hid (by rw [hLl]; exact standInfo)
      have hL1 : Hid (L.toArray.all (·.oneCell') = true) := Lib.hid (by
        rw [← hL]
        obtain ⟨⟨area, addr, mask, cost, hello, dead, again, prio, two, auth⟩, nm, dr, p, n, c⟩ := x
        unfold StandR.vals standVals setVals strv
        simp
        exact ⟨rfl, rfl, rfl, rfl, rfl, rfl, rfl, rfl, rfl, rfl, rfl, rfl, rfl⟩)
      have hLs : Hid ((#[.int .u32 0, .int .u32 0, .int .u32 0, .int .i64 0, .int .i64 0, .int .i64 0, .int .i64 0, .int .i64 0, .bool false, .string ⟨#[]⟩, .string ⟨#[]⟩, .int .u32 0, .slice none 0 0] : Array Value).size = L.toArray.size) := Lib.hid (by simp [hLl])
      have hLz : L.toArray.size = L.length := by simp
      have hBx := Lib.hid (BlkAt.new wr 67 L)
      obtain ⟨vv, hvv⟩ : ∃ v, (KM ar).getD (.slice none 0 0) = v := ⟨_, rfl⟩
      have hold0 := hM.out.old ar
      rw [hvv] at hold0
      have hnb : Hid (∀ i, vv.ownBlock = some i → i < wr.heap.size ∧ r < i) := Lib.hid (fun i e => ⟨own_lt hold0 i e, by have := hold0.2.1 i e; have := hr0.out.1; omega⟩)
      have hbr : Hid (r < wr.heap.size) := Lib.hid (by have h1 := hr0.out.1; have h2 := hM.out.k.size; omega)
      obtain ⟨pv, cv, rfl⟩ := hold0.slice
      have hvv' := Lib.hid hvv
      have hMx := Lib.hid (hM.out.keep ((Keeps.refl (fun _ => False) wr).alloc (.cells L.toArray 67)))
      have hkb := Lib.hid (hkw.out.alloc (.cells L.toArray 67))
      have m1 : (0 : Int) ≤ (k : Int) := by omega
      have m2 : (k : Int) < (xs.length : Int) := by omega
      rw [har0] at hln9 har
      have hln64 : (areaLinks lk (xs.take k) ar).length + (lk x).length ≤ 1000000000 := by omega
      have hln9' := Lib.hid hln64
      have har0' := Lib.hid har0
      clear hL hrow0 hm hx hM hold0 hvv har0
      go_upto_region 5 with (first | ((with_reducible refine at_slot 17 ?_); refine wpList_load_mid rfl 67 (.tmp 16) rfl g (o + k * 13) rfl L _ hrow.out Tryz.underlying67 rfl hi.out ?_) | ((with_reducible refine at_store 7 ?_); refine wpList_store_new rfl 67 (.tmp 7) (.tmp 17) rfl _ L.toArray rfl rfl (by rw [hLz]; exact hi.out) hLs.out hL1.out ?_))
      obtain ⟨b, hb⟩ : ∃ b, wr.heap.size = b := ⟨_, rfl⟩
      rw [hb] at hBx hnb hbr ⊢
      generalize wr.alloc (.cells L.toArray 67) = W1 at hBx hMx hkb ⊢
      clear hb hrow
      refine wp_region_noPanic ?_
      refine wp_region_held_drew (S := (fun W => BlkAt W b 67 L)) (by kernel_rfl) ((hBx.out.keep ((Keeps.refl (fun _ => False) W1).drew) id)) (fun hHeld => ?_)
      have hMd := Lib.hid (hMx.out.keep (Keeps.refl (fun _ => False) W1).drew)
      have hkd := Lib.hid (hkb.out.trans (Keeps.refl (fun _ => False) W1).drew)
      generalize W1.drew = W2 at hHeld hMd hkd ⊢
      clear hMx hBx hkb
      refine tk 0 rfl ?_
      refine tk 1 rfl ?_
      refine tk 2 rfl ?_
      refine tkL 3 rfl (yieldsIf_load_cell (by rfl) 40 (.tmp 20) rfl b 0 rfl (.int .u32 ar) (fun _ s => s.cell 0 _ e0) (fun w s => load_u32 w _ _ _ s)) ?_
      refine tk 4 rfl ?_
      refine tk 5 rfl ?_
      refine tk 6 rfl ?_
      refine tkL 7 rfl (yieldsIf_load_cell (by rfl) 40 (.tmp 24) rfl b 0 rfl (.int .u32 ar) (fun _ s => s.cell 0 _ e0) (fun w s => load_u32 w _ _ _ s)) ?_
      refine tkL 9 rfl (yieldsIf_load_mid (by rfl) 67 (.tmp 7) rfl b 0 rfl L _ (fun _ s => s.range) Tryz.underlying67 rfl hi.out) ?_
      refine step2L 8 10 rfl rfl (by kernel_rfl) (fun K hK => ?_) (fun K hK => ?_)
      focus
        rw [if_pos (by rfl)]
        refine wp_lookup_runU 125 (.tmp 22) (.tmp 25) false rfl _ _ (.slice pv (areaLinks lk (xs.take k) ar).length cv) rfl rfl (by rw [← hvv'.out]; exact hMd.out.u.look ar har) ?_
        refine hK.out _ _ hHeld (fun hHeld => ?_)
        clear hK K
        try simp only [Act.put, sA, sZ, sS]
        refine stepL 10 rfl (by kernel_rfl) (fun K hK => ?_)
        go_simp
        (refine (hlkx.out _ hkd.out).mono ?_; rintro e W3 ⟨pl, cl, rfl, hRl, k3⟩)
        go_wp2_with fail
        refine hK.out _ _ ((hHeld.keep k3 id)) (fun hHeld => ?_)
        clear hK K
        try simp only [Act.put, sA, sZ, sS]
        have hM3 := Lib.hid (hMd.out.keep k3)
        clear hMd k3
      rotate_left
      focus
        go_simp
        refine (hlkx.out _ hkd.out).mono ?_
        rintro e W3 ⟨pl, cl, rfl, hRl, k3⟩
        go_wp2_with fail
        refine hK.out _ _ (hHeld.keep k3 id) (fun hHeld => ?_)
        clear hK K
        try simp only [Act.put, sA, sZ, sS]
        have hM3 := Lib.hid (hMd.out.keep k3)
        clear hMd k3
        refine stepL 8 rfl (by kernel_rfl) (fun K hK => ?_)
        rw [if_pos (by rfl)]
        refine wp_lookup_runU 125 (.tmp 22) (.tmp 25) false rfl _ _ (.slice pv (areaLinks lk (xs.take k) ar).length cv) rfl rfl (by rw [← hvv'.out]; exact hM3.out.u.look ar har) ?_
        refine hK.out _ _ hHeld (fun hHeld => ?_)
        clear hK K
        try simp only [Act.put, sA, sZ, sS]
      all_goals
        have hO3 : Hid (OwnR 142 4 linkVals Wm W3 (.slice pv (areaLinks lk (xs.take k) ar).length cv) (areaLinks lk (xs.take k) ar)) := Lib.hid (by have h := hM3.out.old ar; rw [hvv'.out] at h; exact h)
        have hRl' := Lib.hid hRl
        clear hRl
        refine stepL 11 rfl (by kernel_rfl) (fun K hK => ?_)
        rw [if_pos (by rfl)]
        (refine wp_append_rows (.tmp 26) (.tmp 28) 72 142 rfl i0 _ 24 Tryz.underlying72 hi0 hi1 hi2 hi3 rfl (by decide) (by decide) (fun x => rfl) (fun x => linkVals_one x) Wm _ (areaLinks lk (xs.take k) ar) rfl hO3.out _ rfl (lk x) hRl'.out hln9'.out ?_; intro q7 d7 W4 hO7 hg7)
        refine hK.out _ _ ((hHeld.keep hg7.k (fun e => by have := (hnb.out b e).1; omega))) (fun hHeld => ?_)
        clear hK K
        try simp only [Act.put, sA, sZ, sS]
        have hSt : Hid (∃ W5, (Instr.mapUpdate 125 (.map (some r)) (.int .u32 ar) (.slice q7 ((areaLinks lk (xs.take k) ar).length + (lk x).length) d7)).run Tryz.prog W4 = .ok () W5 ∧ (∃ KM', MapL Wm W5 r lk (xs.take (k + 1)) KM') ∧ Keeps (fun i => i = r) W4 W5) := Lib.hid (by
          obtain ⟨W5, f1, f2, f3⟩ := hM3.out.step hr0.out.1 (by rw [List.length_take]; omega) x (by rw [har0'.out]; exact har) (v := .slice pv (areaLinks lk (xs.take k) ar).length cv) (by rw [har0'.out]; exact hvv'.out) (by rw [har0'.out]; exact hO7) hg7
          rw [har0'.out] at f1
          refine ⟨W5, f1, ⟨_, by rw [hta.out]; exact f2⟩, f3⟩)
        obtain ⟨W5, hrD, ⟨KM', hM5⟩, hk5⟩ := hSt.out
        have hM5' := Lib.hid hM5
        clear hSt hM5 hO7 hg7 hM3 hO3 hRl'
        refine stepL 12 rfl (by kernel_rfl) (fun K hK => ?_)
        rw [if_pos (by rfl)]
        (refine wp_mapUpdate_runU 125 (.tmp 18) (.tmp 21) (.tmp 29) rfl _ _ _ rfl rfl rfl W5 hrD ?_)
        refine hK.out _ _ ((hHeld.keep hk5 (fun e => by have := hbr.out; omega))) (fun hHeld => ?_)
        clear hK K
        try simp only [Act.put, sA, sZ, sS]
        refine wpAnyH_done (by kernel_rfl) (NoPanic.normal ?_) _
        clear hrD hk5 hHeld
        go_wp2_with fail
        exact ⟨⟨k + 1, KM', by omega, by go_num, hM5'⟩, by simp [intOf]; omega⟩
    · obtain rfl : k = xs.length := by omega
      rw [List.take_length] at hM
      have hlen := Lib.hid hM.out.u
      obtain ⟨w7, cnt, hrun, hR, hcnt, k7, hs7⟩ := hM.out.u.range
      have hM7 := Lib.hid (hM.out.keep k7)
      have hR7 := Lib.hid hR
      have hW7 : Hid (r < wr.heap.size ∧ Wm.heap.size ≤ wr.heap.size ∧ w7.heap.size = wr.heap.size + 1 ∧ ∀ a v i, KM a = some v → v.ownBlock = some i → i < wr.heap.size) := Lib.hid ⟨by have h1 := hr0.out.1; have h2 := hM.out.k.size; omega, hM.out.k.size, hs7, fun a v i e e2 => own_lt (hM.out.o a v e) i e2⟩
      have hcnt' : cnt ≤ 64 := by omega
      clear hR k7 hs7 hM hlen hcnt
      generalize hgi : wr.heap.size = ir at hrun hR7 hW7 ⊢
      go_wp2_with fail
      clear hrun hgi
      have hTs : Hid (TellR me lk xs KM (fun a => (KM a).isSome) []) := Lib.hid (TellR.start _ _ _ _)
      have hOs : Hid (OwnR 77 10 OwnE.vals w7 w7 (.slice none 0 0) []) := Lib.hid (OwnR.nil _ _ (Nat.le_refl _))
      go_loopw [8] (fun ov wr => ∃ (es : List OwnE) (po : Option Addr) (co : Nat) (Lf : Nat → Bool) (cnt : Nat), ov = .slice po es.length co ∧ es.length + cnt ≤ 64 ∧ Hid (TellR me lk xs KM Lf es) ∧ Hid (MapL Wm wr r lk xs KM) ∧ Hid (OwnR 77 10 OwnE.vals w7 wr ov es) ∧ Hid (URng wr r ir xs.length KM Lf cnt)) (fun _ wr => wr.rangeLeft r ir)
      case atStart => exact ⟨[], none, 0, _, cnt, rfl, by simpa using hcnt', hTs, hM7, hOs, hR7⟩
      case round =>
        obtain ⟨es, po, co, Lf, cnt1, rfl, hnl, hT, hMr, hOr, hRg⟩ := hrel
        rcases hRg.out.next 0 with ⟨h0, hL, hnx⟩ | ⟨a, va, w8, cnt2, hxs, hLx, hKx, hnx, hRg2, hlt, hk8, hs8, hen⟩
        · have hT' := hT.out
          go_wp2_with fail
          go_ret
          refine ⟨es, po, co, rfl, ?_, ⟨fun e he => ?_, hT'.n, fun a => ?_, fun e he i hi => ?_⟩, by omega, ?_⟩
          · refine hOr.out.older ?_
            have h1 := hW7.out.2.2.1
            have h2 := hW7.out.2.1
            have h3 := hr0.out.1
            have h4 := hr'.out
            omega
          · obtain ⟨e1, e2, e3, e4, e5, e6, e7, e8, e9⟩ := hT'.e e he
            refine ⟨e1, e2, e3, e4, e5, e6, e7, by rw [e8, List.length_take, Nat.min_comm], ?_⟩
            have h1 := OwnR.at (sz := 4) (cv := linkVals) (fun _ => rfl) (hMr.out.o e.area _ e9)
            have h2 := h1.take (min (areaLinks lk xs e.area).length 40) (Nat.min_le_left _ _)
            rw [e8]
            have h3 : (areaLinks lk xs e.area).take (min (areaLinks lk xs e.area).length 40) = (areaLinks lk xs e.area).take 40 := by
              rw [List.take_eq_take_iff]; omega
            rw [h3] at h2
            exact h2
          · have h1 := hT'.l a
            rw [hL a, Bool.false_or, hMr.out.h a] at h1
            rw [← List.contains_iff_mem, ← h1, List.any_eq_true]
            simp
          · obtain ⟨e1, e2, e3, e4, e5, e6, e7, e8, e9⟩ := hT'.e e he
            exact (hMr.out.o e.area _ e9).type_ i (by cases hp : e.p5 <;> rw [hp] at hi <;> exact hi)
          · exact hr0.out.2.trans' hMr.out.k (fun i e => .inr (by rw [e, hr'.out]; exact Nat.le_refl _))
        · obtain ⟨pl, cl, rfl⟩ := (hMr.out.o a va hKx).slice
          have hM8 := Lib.hid (hMr.out.apart hk8 (fun i e => by rw [e]; exact Nat.le_refl _) hW7.out.1 hW7.out.2.1 hW7.out.2.2.2)
          have hT8 := Lib.hid (hT.out.step hLx hKx)
          have hO8 := Lib.hid (hOr.out.keep hk8 (fun i e e2 => by have h1 := hOr.out.2.1 i e; have h2 := hW7.out.2.2.1; omega))
          have hR8 := Lib.hid hRg2
          have hlk8 : (areaLinks lk xs a).length ≤ 1000 := by have := areaLinks_len lk xs a hll.out; omega
          have hle := Lib.hid hRg.out.left_eq
          have hcl : (areaLinks lk xs a).length ≤ cl := by
            obtain ⟨p2, c2, e, -, hc, -⟩ := OwnR.at (sz := 4) (cv := linkVals) (fun _ => rfl) (hMr.out.o a _ hKx)
            injection e with e1 e2 e3
            omega
          have hlt' := Lib.hid hlt
          clear hKx hLx hRg2 hlt hk8 hs8 hT hMr hOr hRg
          generalize hal : (areaLinks lk xs a).length = ln at hnx hen hT8 hlk8 hcl ⊢
          clear hal
          obtain ⟨J, hJ⟩ : ∃ J, min ln 40 = J := ⟨_, rfl⟩
          rw [hJ] at hT8
          have hJ2 : (40 < ln ∧ J = 40) ∨ (ln ≤ 40 ∧ J = ln) := by omega
          clear hJ
          have hn8 : es.length ≤ 1000000000 := by omega
          rcases hJ2 with ⟨h40, rfl⟩ | ⟨h40, rfl⟩
          focus
            have g1 : (40 : Int) < (ln : Int) := by omega
            have g2 : (40 : Int) ≤ (cl : Int) := by omega
            clear h40
            go_wp2_with fail
            refine (advOwn_any _ _ _ _ _ _ _ _ _ _ _ _ _ _ _ w8).mono ?_
            obtain ⟨J, hJ⟩ : ∃ J, J = 40 := ⟨_, rfl⟩
            rw [← hJ] at hT8 ⊢
            clear hJ g1 g2
          rotate_left
          focus
            have g1 : ¬ (40 : Int) < (J : Int) := by omega
            have g2 : (J : Int) ≤ (cl : Int) := by omega
            have g3 : (0 : Int) ≤ (J : Int) := by omega
            clear h40
            go_wp2_with fail
            refine (advOwn_any _ _ _ _ _ _ _ _ _ _ _ _ _ _ _ w8).mono ?_
            clear g1 g2 g3
          all_goals
            rintro e w9 ⟨rfl, k9⟩
            have kA := k9.alloc (.cells (OwnE.mk a 1 me me pl J cl 0 none 0 0).vals.toArray 77)
            have hO9 := Lib.hid (hO8.out.keep kA (fun _ _ f => f))
            have hM9 := Lib.hid (hM8.out.keep kA)
            have hR9 := Lib.hid (hR8.out.keep kA id id)
            clear k9 kA hM8 hO8 hR8
            go_wp2_with ((with_reducible refine at_slot 51 ?_); refine wpList_append_r rfl (.tmp 38) (.tmp 50) 25 77 rfl i1 _ 104 Tryz.underlying25 hj0 hj1 hj2 hj3 rfl (by decide) (by decide) ownE_len w7 _ es.length es rfl rfl hO9.out _ rfl ⟨a, 1, me, me, pl, J, cl, 0, none, 0, 0⟩ (cells_new (w := w9) rfl (OwnE.mk a 1 me me pl J cl 0 none 0 0).vals 77) (ownE_one _) hn8 ?_; intro q8 d8 w10 hO10 hg10)
            have hap : ∀ i, (Value.slice po es.length co).ownBlock = some i → ir + 1 ≤ i := fun i e => by have h1 := hO9.out.2.1 i e; have h2 := hW7.out.2.2.1; omega
            have hM10 := hM9.out.apart hg10.out.k (fun i e => by have := hap i e; omega) hW7.out.1 hW7.out.2.1 hW7.out.2.2.2
            have hR10 := hR9.out.keep hg10.out.k (fun e => by have := hap r e; have := hW7.out.1; omega) (fun e => by have := hap ir e; omega)
            exact ⟨⟨es ++ [⟨a, 1, me, me, pl, J, cl, 0, none, 0, 0⟩], q8, d8, _, cnt2, by simp, by have := hlt'.out; simp; omega, hT8, Lib.hid hM10, hO10, Lib.hid hR10⟩, by have := hlt'.out; rw [hR10.left_eq, hle.out]; exact this⟩
end Go.Proofs.YtialookpnoaogaaGreat
/- Of adv: the document's has; is a line of another interface? -/
set_option linter.unusedVariables false
set_option linter.unusedSimpArgs false
namespace Go.Proofs.YtialookpnoaogaaGreat
open Go.RowKit

theorem StrsAt.get {w : World} {p : Option Addr} {n c : Nat} {xs : List (List UInt8)} (h : StrsAt w (.slice p n c) xs) {k : Nat} {x : List UInt8} (hx : xs[k]? = some x) : ∃ g o, p = some ⟨g, o, none⟩ ∧ w.cell? ⟨g, o + k, none⟩ = some (.string ⟨x.toArray⟩) := by
  obtain ⟨p', c', e, h2⟩ := h
  injection e with e1 e2 e3
  subst e1
  have hk := (List.getElem?_eq_some_iff.1 hx).1
  obtain ⟨g, o, hp, hr⟩ := h2 (by omega)
  exact ⟨g, o, hp, hr k _ (by rw [List.getElem?_map, hx]; rfl)⟩
set_option maxRecDepth 100000 in
set_option maxHeartbeats 4000000 in
theorem has15_any (v : Value) (xs : List (List UInt8)) (s : List UInt8) (z : Bool) (w : World) (hv : Hid (StrsAt w v xs)) (hl : xs.length ≤ 1000000) (hz : Hid (xs.contains s = z)) :
    Calls Tryz.prog 30 #[v, .string ⟨s.toArray⟩] w fun e w' => e = .returned (.bool z) ∧ w = w' := by
  obtain ⟨S, hS⟩ : ∃ S : ByteArray, (⟨s.toArray⟩ : ByteArray) = S := ⟨_, rfl⟩
  rw [hS]
  obtain ⟨p, c, rfl⟩ : ∃ p c, v = .slice p xs.length c := by obtain ⟨p, c, e, -⟩ := hv.out; exact ⟨p, c, e⟩
  go_enter Tryz.func30, Tryz.ntmps30
  go_wp2_with fail
  go_loopw [5] (fun iv wr => ∃ (k : Nat), k ≤ xs.length ∧ iv = .int .i64 k ∧ Hid (¬ s ∈ xs.take k) ∧ w = wr) (fun iv _ => xs.length - (intOf iv).toNat)
  case atStart => exact ⟨0, by omega, rfl, Lib.hid (by simp), rfl⟩
  case round =>
    obtain ⟨k, hk, rfl, hU, rfl⟩ := hrel
    by_cases hlk : k < xs.length
    · obtain ⟨x, hx⟩ : ∃ x, xs[k]? = some x := ⟨_, List.getElem?_eq_getElem hlk⟩
      obtain ⟨g, o, rfl, hc0⟩ := StrsAt.get hv.out hx
      obtain ⟨X, hX⟩ : ∃ X : ByteArray, ⟨x.toArray⟩ = X := ⟨_, rfl⟩
      rw [hX] at hc0
      have m1 : (0 : Int) ≤ (k : Int) := by omega
      have m2 : (k : Int) < (xs.length : Int) := by omega
      by_cases he : x = s
      · have hE : (X.toList == S.toList) = true := by rw [← hX, ← hS, ba_toList, ba_toList, he]; simp
        have hres : Hid (z = true) := Lib.hid (by rw [← hz.out, List.contains_iff_mem, ← he]; exact List.mem_of_getElem? hx)
        clear hX he hU
        go_wp2_with fail
        go_ret
        exact ⟨by rw [hres.out]; rfl, rfl⟩
      · have hE : (X.toList == S.toList) = false := by rw [← hX, ← hS, ba_toList, ba_toList]; simpa using he
        have hn : Hid (¬ s ∈ xs.take (k + 1)) := Lib.hid (by
          obtain ⟨h2, e⟩ := List.getElem?_eq_some_iff.1 hx
          rw [List.take_succ_eq_append_getElem h2, e]
          intro h
          rcases List.mem_append.1 h with h | h
          · exact hU.out h
          · exact he (List.mem_singleton.1 h).symm)
        clear hX he hU hx
        go_wp2_with fail
        exact ⟨⟨k + 1, by omega, by go_num, hn, by first | rfl | trivial⟩, by simp [intOf]; omega⟩
    · obtain rfl : k = xs.length := by omega
      rw [List.take_length] at hU
      have hres : Hid (z = false) := Lib.hid (by rw [← hz.out]; simpa using hU.out)
      go_wp2_with fail
      go_ret
      exact ⟨by rw [hres.out]; rfl, rfl⟩
/-- a line of another interface, or of none -/
def otherB (n : List UInt8) (l : LineD) : Bool := l.head != 2 || l.name != n
theorem advSet1_any (head : Int) (name leaf value n : List UInt8) (g : Nat) (w : World) (hc : w.cell? ⟨g, 0, none⟩ = some (strv n)) :
    Calls Tryz.prog 52 #[.agg #[.int .i64 head, strv name, strv leaf, strv value], .pointer (some ⟨g, 0, none⟩)] w fun e w' => e = .returned (.bool (otherB n ⟨head, name, leaf, value⟩)) ∧ Keeps (fun _ => False) w w' := by
  have hgl := Lib.hid (World.block_lt_of_cell? w _ hc)
  unfold strv at *
  obtain ⟨X, hX⟩ : ∃ X : ByteArray, (⟨name.toArray⟩ : ByteArray) = X := ⟨_, rfl⟩
  obtain ⟨Y, hY⟩ : ∃ X : ByteArray, (⟨n.toArray⟩ : ByteArray) = X := ⟨_, rfl⟩
  rw [hX]
  rw [hY] at hc
  obtain ⟨z, hz⟩ : ∃ z, otherB n ⟨head, name, leaf, value⟩ = z := ⟨_, rfl⟩
  have hz' := Lib.hid hz
  have hc1 : ∀ o, (w.alloc o).cell? ⟨g, 0, none⟩ = some (.string Y) := fun o => (((Keeps.refl (fun _ => False) w).alloc o).cell (p := ⟨g, 0, none⟩) hgl.out id).trans hc
  have hE : (!(X.toList == Y.toList)) = (name != n) := by rw [← hX, ← hY, ba_toList, ba_toList]; rfl
  rw [hz]
  unfold otherB at hz
  simp only at hz
  clear hX hY
  by_cases h2 : head = 2
  · have h2' : (head != 2) = false := by rw [h2]; rfl
    rw [h2', Bool.false_or] at hz
    rw [hz] at hE
    clear hz h2
    go_enter Tryz.func52, Tryz.ntmps52
    go_wp2_with fail
    go_ret
    exact ⟨rfl, (Keeps.refl _ _).alloc _⟩
  · have h2' : (head != 2) = true := by rw [bne_iff_ne]; exact h2
    rw [h2', Bool.true_or] at hz
    subst hz
    clear h2
    go_enter Tryz.func52, Tryz.ntmps52
    go_wp2_with fail
    go_ret
    exact ⟨rfl, (Keeps.refl _ _).alloc _⟩
end Go.Proofs.YtialookpnoaogaaGreat
/- Of adv: lines cloned, and those of other interfaces deleted. -/
set_option linter.unusedVariables false
set_option linter.unusedSimpArgs false
namespace Go.Proofs.YtialookpnoaogaaGreat
open Go.RowKit

theorem eql_nilC (a : Addr) (l c : Nat) (w : World) : (binOp .eql 30 (.slice (some a) l c) (.slice none 0 0)).run Tryz.prog w = .ok (.bool false) w := by
  simp [binOp, run_equal_slice_nil w 30 _ (some a) l c Tryz.underlying30]
theorem lines_empty (w0 w : World) (h : w0.heap.size ≤ w.heap.size) : OwnR 79 4 lineVals w0 (w.alloc (.cells #[] 79)) (.slice (some ⟨w.heap.size, 0, none⟩) 0 0) ([] : List LineD) := by
  refine ⟨⟨rfl, .inr ⟨w.heap.size, 0, #[], rfl, Nat.zero_le _, heap_alloc_last w _, Nat.le_refl _, by unfold maxLen; omega, by simp, rfl⟩⟩, fun k e => ?_, by simp; omega⟩
  simp only [Value.ownBlock, Option.some.injEq] at e
  omega
set_option maxRecDepth 100000 in
set_option maxHeartbeats 4000000 in
theorem cloneLines_any (v : Value) (ls : List LineD) (w : World) (hv : Hid (RowsAt 4 lineVals w v ls)) (hl : ls.length ≤ 1000000) (h0 : 0 < ls.length) :
    Calls Tryz.prog 51 #[v] w fun e w' => ∃ p c, e = .returned (.slice p ls.length c) ∧ OwnR 79 4 lineVals w w' (.slice p ls.length c) ls ∧ Keeps (fun _ => False) w w' := by
  obtain ⟨i0, hi0, hi1, hi2, hi3⟩ := lineAll
  obtain ⟨p, c, rfl⟩ := hv.out.slice
  obtain ⟨g, o, rfl, -⟩ := hv.out.open h0
  have hE := Lib.hid (lines_empty w w (Nat.le_refl _))
  have hR := Lib.hid (hv.out.keep ((Keeps.refl (fun _ => False) w).alloc (.cells #[] 79)))
  clear hv
  have heq := eql_nilC ⟨g, o, none⟩ ls.length c w
  go_enter Tryz.func51, Tryz.ntmps51
  go_wp2_with ((with_reducible refine at_slot 7 ?_); refine wpList_append_rows rfl (.tmp 5) (.tmp 6) 30 79 rfl i0 _ 56 Tryz.underlying30 hi0 hi1 hi2 hi3 rfl (by decide) (by decide) lineVals_len (fun x => lineVals_one x) w _ [] rfl hE.out _ rfl ls hR.out (by rw [List.length_nil]; omega) ?_; intro q8 d8 w8 hO8 hg8; rw [show ([] : List LineD).length + ls.length = ls.length by simp] at hO8 hg8 ⊢; rw [List.nil_append] at hO8; have hk8 := Lib.hid (OwnR.keeps (w0 := w) hE.out ((Keeps.refl _ _).alloc _) hg8.out))
  go_ret
  exact ⟨q8, d8, rfl, hO8.out, hk8.out⟩
end Go.Proofs.YtialookpnoaogaaGreat
/- Of adv: the first line of another interface. -/
set_option linter.unusedVariables false
set_option linter.unusedSimpArgs false
namespace Go.Proofs.YtialookpnoaogaaGreat
open Go.RowKit

/-- the first line of another interface, from k on -/
def idxB (n : List UInt8) (ls : List LineD) : Option Nat := ls.findIdx? (otherB n)
set_option maxRecDepth 100000 in
set_option maxHeartbeats 4000000 in
theorem idxLines_any (v : Value) (ls : List LineD) (n : List UInt8) (pn : Nat) (w : World) (hv : Hid (RowsAt 4 lineVals w v ls)) (hl : ls.length ≤ 1000000) (hc : Hid (w.cell? ⟨pn, 0, none⟩ = some (strv n))) :
    Calls Tryz.prog 90 #[v, .func (.func 52) #[] #[.pointer (some ⟨pn, 0, none⟩)]] w fun e w' => (∃ r : Int, e = .returned (.int .i64 r) ∧ ((r = -1 ∧ ∀ l ∈ ls, otherB n l = false) ∨ ∃ k : Nat, r = k ∧ k < ls.length ∧ (∀ l ∈ ls.take k, otherB n l = false) ∧ ∃ l, ls[k]? = some l ∧ otherB n l = true)) ∧ Keeps (fun _ => False) w w' := by
  obtain ⟨p, c, rfl⟩ := hv.out.slice
  go_enter Tryz.func90, Tryz.ntmps90
  go_wp2_with fail
  go_loopw [8] (fun iv wr => ∃ (k : Nat), k ≤ ls.length ∧ iv = .int .i64 k ∧ Hid (∀ l ∈ ls.take k, otherB n l = false) ∧ Hid (Keeps (fun _ => False) w wr)) (fun iv _ => ls.length - (intOf iv).toNat)
  case atStart => exact ⟨0, by omega, rfl, Lib.hid (fun l hl => by simp at hl), Lib.hid (Keeps.refl _ _)⟩
  case round =>
    obtain ⟨k, hk, rfl, hU, hK⟩ := hrel
    by_cases hlk : k < ls.length
    · obtain ⟨l, hx⟩ : ∃ x, ls[k]? = some x := ⟨_, List.getElem?_eq_getElem hlk⟩
      obtain ⟨g, o, rfl, hr⟩ := hv.out.open (by omega)
      have hr2 := Lib.hid (hK.out.rangeAt (hr k l hx) id)
      have hcn := (hK.out.cell (p := ⟨pn, 0, none⟩) (World.block_lt_of_cell? w _ hc.out) id).trans hc.out
      obtain ⟨head, name, leaf, value⟩ := l
      have hcl := Lib.hid (advSet1_any head name leaf value n pn wr hcn)
      obtain ⟨z, hz⟩ : ∃ z, otherB n ⟨head, name, leaf, value⟩ = z := ⟨_, rfl⟩
      rw [hz] at hcl
      have hz' := Lib.hid hz
      have hx' := Lib.hid hx
      have m1 : (0 : Int) ≤ (k : Int) := by omega
      have m2 : (k : Int) < (ls.length : Int) := by omega
      clear hr hcn hz hx
      go_wp2_with ((with_reducible refine at_slot 15 ?_); refine wpList_load_mid rfl 79 (.tmp 14) rfl g (o + k * 4) rfl _ _ hr2.out Tryz.underlying79 rfl (by kernel_rfl) ?_)
      refine hcl.out.mono ?_
      rintro e w2 ⟨rfl, hk2⟩
      have hK2 := Lib.hid (hK.out.trans hk2)
      clear hcl hk2 hr2 hK
      cases z with
      | true =>
        go_wp2_with fail
        go_ret
        exact ⟨⟨(k : Int), rfl, .inr ⟨k, rfl, hlk, hU.out, _, hx'.out, hz'.out⟩⟩, hK2.out⟩
      | false =>
        have hn : Hid (∀ l ∈ ls.take (k + 1), otherB n l = false) := Lib.hid (fun l hl => by
          obtain ⟨h2, e⟩ := List.getElem?_eq_some_iff.1 hx'.out
          rw [List.take_succ_eq_append_getElem h2, e] at hl
          rcases List.mem_append.1 hl with h | h
          · exact hU.out l h
          · rw [List.mem_singleton.1 h]; exact hz'.out)
        clear hU hz' hx'
        go_wp2_with fail
        exact ⟨⟨k + 1, by omega, by go_num, hn, hK2⟩, by simp [intOf]; omega⟩
    · obtain rfl : k = ls.length := by omega
      rw [List.take_length] at hU
      go_wp2_with fail
      go_ret
      exact ⟨⟨-1, rfl, .inl ⟨rfl, hU.out⟩⟩, hK.out⟩
end Go.Proofs.YtialookpnoaogaaGreat
/- Of adv: rows of lines that are set in place, cut, cleared (PLX, of lines). -/
set_option linter.unusedVariables false
set_option linter.unusedSimpArgs false
namespace Go.Proofs.YtialookpnoaogaaGreat
open Go.RowKit

theorem rowCells_setN (v : LineD) : ∀ (M : List LineD) (i : Nat), ((((rowCells lineVals M).set (i * 4) (.int .i64 v.head)).set (i * 4 + 1) (strv v.name)).set (i * 4 + 2) (strv v.leaf)).set (i * 4 + 3) (strv v.value) = rowCells lineVals (M.set i v) := by
  intro M
  induction M with
  | nil => intro i; simp [rowCells]
  | cons m M ih =>
    intro i
    have e : rowCells lineVals (m :: M) = .int .i64 m.head :: strv m.name :: strv m.leaf :: strv m.value :: rowCells lineVals M := rfl
    rw [e]
    cases i with
    | zero => rfl
    | succ i =>
      have e1 : (i + 1) * 4 = i * 4 + 1 + 1 + 1 + 1 := by omega
      have e2 : (i + 1) * 4 + 1 = i * 4 + 1 + 1 + 1 + 1 + 1 := by omega
      have e3 : (i + 1) * 4 + 2 = i * 4 + 2 + 1 + 1 + 1 + 1 := by omega
      have e4 : (i + 1) * 4 + 3 = i * 4 + 3 + 1 + 1 + 1 + 1 := by omega
      rw [e4, e3, e2, e1]
      simp only [List.set_cons_succ]
      rw [ih i]
      rfl
theorem rowCells_takeN : ∀ (M : List LineD) (k : Nat), (rowCells lineVals M).take (k * 4) = rowCells lineVals (M.take k) := by
  intro M
  induction M with
  | nil => intro k; simp [rowCells]
  | cons m M ih =>
    intro k
    cases k with
    | zero => simp [rowCells]
    | succ k =>
      have e : rowCells lineVals (m :: M) = .int .i64 m.head :: strv m.name :: strv m.leaf :: strv m.value :: rowCells lineVals M := rfl
      rw [e, show (k + 1) * 4 = k * 4 + 1 + 1 + 1 + 1 by omega, List.take_succ_cons, List.take_succ_cons, List.take_succ_cons, List.take_succ_cons, ih k]
      rfl
theorem ownN {w0 w : World} {g n c : Nat} {M : List LineD} (h : OwnR 79 4 lineVals w0 w (.slice (some ⟨g, 0, none⟩) n c) M) : ∃ cur : List Value, BlkAt w g 79 cur ∧ n = M.length ∧ M.length ≤ c ∧ c ≤ maxLen ∧ cur.length = c * 4 ∧ cur.take (M.length * 4) = rowCells lineVals M := by
  obtain ⟨⟨hlen, hv⟩, hb, hs⟩ := h
  rw [rowCells_len lineVals_len] at hlen
  rcases hv with ⟨e, -⟩ | ⟨g2, cap, cur, e, -, hg, h1, h2, h3, h4⟩
  · injection e with e1; cases e1
  · injection e with e1 e2 e3
    injection e1 with e1
    injection e1 with e4
    subst e4; subst e3; subst e2
    exact ⟨cur.toList, by unfold BlkAt; simpa using hg, rfl, h1, h2, by simpa using h3, h4⟩
theorem ownN_of {w0 w : World} {g c : Nat} {M : List LineD} {cur : List Value} (hB : BlkAt w g 79 cur) (h1 : M.length ≤ c) (h2 : c ≤ maxLen) (h3 : cur.length = c * 4) (h4 : cur.take (M.length * 4) = rowCells lineVals M) (h0 : w0.heap.size ≤ g) (hs : w0.heap.size ≤ w.heap.size) : OwnR 79 4 lineVals w0 w (.slice (some ⟨g, 0, none⟩) M.length c) M :=
  ⟨⟨by rw [rowCells_len lineVals_len], .inr ⟨g, c, cur.toArray, rfl, Nat.zero_le _, hB, h1, h2, by simpa using h3, by simpa using h4⟩⟩, fun k e => by
    have e : some g = some k := e
    rw [← Option.some.inj e]; exact h0, hs⟩
theorem setN {w0 w : World} {g c : Nat} {M : List LineD} (h : OwnR 79 4 lineVals w0 w (.slice (some ⟨g, 0, none⟩) M.length c) M) (i : Nat) (x : LineD) (hi : i < M.length) : OwnR 79 4 lineVals w0 (w.setCells g (i * 4) [.int .i64 x.head, strv x.name, strv x.leaf, strv x.value]) (.slice (some ⟨g, 0, none⟩) M.length c) (M.set i x) := by
  obtain ⟨cur, hB, -, h1, h2, h3, h4⟩ := ownN h
  have hB2 : BlkAt (w.setCells g (i * 4) [.int .i64 x.head, strv x.name, strv x.leaf, strv x.value]) g 79 ((((cur.set (i * 4) (.int .i64 x.head)).set (i * 4 + 1) (strv x.name)).set (i * 4 + 2) (strv x.leaf)).set (i * 4 + 3) (strv x.value)) := (((hB.set (i * 4) _).set (i * 4 + 1) _).set (i * 4 + 2) _).set (i * 4 + 3) _
  have := ownN_of (w0 := w0) (M := M.set i x) hB2 (by simpa using h1) h2 (by simpa using h3) (by rw [List.length_set, List.take_set, List.take_set, List.take_set, List.take_set, h4, rowCells_setN]) (h.2.1 g rfl) (Nat.le_trans h.2.2 (Keeps.setCells (F := fun j => j = g) (.inl rfl) _ _ _ (Keeps.refl _ _)).size)
  simpa using this
theorem take_set_one {M : List LineD} {k : Nat} (h : k < M.length) (y : LineD) : (M.set k y).take (k + 1) = M.take k ++ [y] := by
  rw [List.take_add_one, List.getElem?_set, if_pos rfl, if_pos h, List.take_set, List.set_eq_of_length_le (by rw [List.length_take]; omega)]; rfl
theorem blk_sets {g : Nat} {t : TypeId} : ∀ (Z : List Value) (o : Nat) (w : World) (cur : List Value), BlkAt w g t cur → ∃ cur', BlkAt (w.setCells g o Z) g t cur' ∧ cur'.length = cur.length ∧ cur'.take o = cur.take o := by
  intro Z
  induction Z with
  | nil => intro o w cur h; exact ⟨cur, h, rfl, rfl⟩
  | cons z Z ih =>
    intro o w cur h
    obtain ⟨cur', h1, h2, h3⟩ := ih (o + 1) _ _ (h.set o z)
    refine ⟨cur', h1, by simpa using h2, ?_⟩
    have h4 := congrArg (List.take o) h3
    rw [List.take_take, List.take_take, Nat.min_eq_left (by omega), List.take_set, List.set_eq_of_length_le (by rw [List.length_take]; omega)] at h4
    exact h4
theorem cutN {w0 w : World} {g c : Nat} {M : List LineD} (h : OwnR 79 4 lineVals w0 w (.slice (some ⟨g, 0, none⟩) M.length c) M) (k : Nat) (hk : k ≤ M.length) (Z : List Value) : OwnR 79 4 lineVals w0 (w.setCells g (k * 4) Z) (.slice (some ⟨g, 0, none⟩) k c) (M.take k) := by
  obtain ⟨cur, hB, -, h1, h2, h3, h4⟩ := ownN h
  obtain ⟨cur', b1, b2, b3⟩ := blk_sets Z (k * 4) w cur hB
  have hl : (M.take k).length = k := by rw [List.length_take]; omega
  have := ownN_of (w0 := w0) (M := M.take k) b1 (by omega) h2 (by omega) (by
    rw [hl, b3, ← rowCells_takeN, ← h4, List.take_take, Nat.min_eq_left (by omega)]) (h.2.1 g rfl) (Nat.le_trans h.2.2 (Keeps.setCells (F := fun j => j = g) (.inl rfl) _ _ _ (Keeps.refl _ _)).size)
  rw [hl] at this
  exact this
theorem clearN {w0 w : World} {g c n : Nat} {M : List LineD} (h : OwnR 79 4 lineVals w0 w (.slice (some ⟨g, 0, none⟩) M.length c) M) (k : Nat) (hk : k < M.length) (hn : n = M.length - k) : ∃ Z, ∀ ty c2, (Builtin.clear_ #[30] ty #[.slice (some ⟨g, k * 4, none⟩) n c2]).run Tryz.prog w = .ok (.tuple #[]) (w.setCells g (k * 4) Z) := by
  obtain ⟨cur, hB, -, h1, h2, h3, h4⟩ := ownN h
  refine ⟨(Builtin.zeroCells #[.int .i64 0, .string ⟨#[]⟩, .string ⟨#[]⟩, .string ⟨#[]⟩] n).toList, fun ty c2 => ?_⟩
  have hz : ∀ v ∈ (Builtin.zeroCells #[.int .i64 0, .string ⟨#[]⟩, .string ⟨#[]⟩, .string ⟨#[]⟩] n).toList, v.oneCell' = true := by
    intro v hv
    unfold Builtin.zeroCells at hv
    simp only [Array.toList_map, List.mem_map, Array.mem_toList_iff, Array.mem_range] at hv
    obtain ⟨i, -, rfl⟩ := hv
    have : i % 4 = 0 ∨ i % 4 = 1 ∨ i % 4 = 2 ∨ i % 4 = 3 := by omega
    rcases this with e | e | e | e <;> simp [e] <;> rfl
  have hl : (Builtin.zeroCells #[.int .i64 0, .string ⟨#[]⟩, .string ⟨#[]⟩, .string ⟨#[]⟩] n).toList.length = n * 4 := by unfold Builtin.zeroCells; simp
  have hst := run_storeCells_cells (P := Tryz.prog) g (k * 4) (Builtin.zeroCells #[.int .i64 0, .string ⟨#[]⟩, .string ⟨#[]⟩, .string ⟨#[]⟩] n).toList 0 w
    (fun j hj => by rw [Nat.add_zero, hB.cell (k * 4 + j) _ (List.getElem?_eq_getElem (by omega))]; rfl) (fun j hj => hB.frozen _) hz
  simp only [Nat.add_zero] at hst
  obtain ⟨m, rfl⟩ : ∃ m, n = m + 1 := ⟨n - 1, by omega⟩
  have hzv : ∀ w, (zeroValue 79).run Tryz.prog w = .ok (.agg #[.int .i64 0, .string ⟨#[]⟩, .string ⟨#[]⟩, .string ⟨#[]⟩]) w := fun w => Tryz.zeroValue79 w
  simp [Builtin.clear_, run_underlying Tryz.underlying30, hzv, Value.cells, hst]
end Go.Proofs.YtialookpnoaogaaGreat
/- Of adv: lines of other interfaces deleted (slices.DeleteFunc). -/
set_option linter.unusedVariables false
set_option linter.unusedSimpArgs false
namespace Go.Proofs.YtialookpnoaogaaGreat
open Go.RowKit

theorem lineInfo4 : (Tryz.prog.info? 79).map (·.size) = some 4 := by kernel_rfl
theorem store_new_line {P : Program} {ops : Array Oper} {rest : List Oper} {op : Oper} {a : Act} {w : World} {Q : Exit → Act → World → Prop} (hgd : op.guard = none) (ty : TypeId) (x y : Operand) (ho : op.op = .store ty x y)
    (c c' : Array Value) (hx : a.eval x = .pointer (some ⟨w.heap.size, 0, none⟩)) (hy : a.eval y = .agg c')
    (hi : (P.info? ty).map (·.size) = some c'.size) (hs : c.size = c'.size) (h1 : c'.all (·.oneCell') = true)
    (h : ∀ w1, Hid (w1 = w.alloc (.cells c' ty)) → wpList P ops Q rest (a.put op.dst undef) w1) : wpList P ops Q (op :: rest) a (w.alloc (.cells c ty)) :=
  wpList_store_new hgd ty x y ho c c' hx hy hi hs h1 (h _ (Lib.hid rfl))
theorem line_oneD (h : Int) (a b c : ByteArray) : (#[.int .i64 h, .string a, .string b, .string c] : Array Value).all (·.oneCell') = true := by simp; exact ⟨rfl, rfl, rfl, rfl⟩
/-- a name's own lines -/
def ownL (n : List UInt8) (ls : List LineD) : List LineD := ls.filter (fun l => !otherB n l)
theorem ownL_all {n : List UInt8} {ls : List LineD} (h : ∀ l ∈ ls, otherB n l = false) : ownL n ls = ls := List.filter_eq_self.2 (fun l hl => by rw [h l hl]; rfl)
theorem ownL_next {n : List UInt8} {ls : List LineD} {k : Nat} {l : LineD} (h : ls[k]? = some l) : ownL n (ls.take (k + 1)) = ownL n (ls.take k) ++ (if otherB n l = true then [] else [l]) := by
  obtain ⟨h2, e⟩ := List.getElem?_eq_some_iff.1 h
  rw [List.take_succ_eq_append_getElem h2, e]
  unfold ownL
  rw [List.filter_append]
  congr 1
  cases h3 : otherB n l <;> simp [h3]
set_option maxRecDepth 100000 in
set_option maxHeartbeats 8000000 in
theorem delLines_any (v : Value) (ls : List LineD) (n : List UInt8) (pn : Nat) (w0 w : World) (hO : Hid (OwnR 79 4 lineVals w0 w v ls)) (hl : ls.length ≤ 1000000) (hc : Hid (w.cell? ⟨pn, 0, none⟩ = some (strv n))) (hap : Hid (∀ k, v.ownBlock = some k → pn ≠ k)) :
    Calls Tryz.prog 50 #[v, .func (.func 52) #[] #[.pointer (some ⟨pn, 0, none⟩)]] w fun e w' => ∃ p c, e = .returned (.slice p (ownL n ls).length c) ∧ OwnR 79 4 lineVals w0 w' (.slice p (ownL n ls).length c) (ownL n ls) ∧ Keeps (fun i => v.ownBlock = some i) w w' := by
  obtain ⟨p, c, rfl⟩ := hO.out.slice
  have hix := Lib.hid (idxLines_any _ ls n pn w (Lib.hid (hO.out.at lineVals_len)) hl hc)
  go_enter Tryz.func50, Tryz.ntmps50
  go_wp2_with fail
  refine hix.out.mono ?_
  rintro e w1 ⟨⟨r, rfl, hr⟩, hk1⟩
  clear hix
  have hk1' := Lib.hid hk1
  have hO1 := Lib.hid (hO.out.keep hk1 (fun _ _ f => f))
  clear hk1
  rcases hr with ⟨rfl, hall⟩ | ⟨k, rfl, hkl, hno, l, hlk, hyes⟩
  · have e1 := ownL_all hall
    clear hall
    go_wp2_with fail
    go_ret
    exact ⟨p, c, by rw [e1]; rfl, by rw [e1]; exact hO1.out, hk1'.out.mono (fun _ f => f.elim)⟩
  · obtain ⟨g, o, rfl, -⟩ := (hO1.out.at lineVals_len).open (by omega)
    obtain rfl : o = 0 := by
      rcases hO1.out.1.2 with ⟨e, -⟩ | ⟨g2, cap, cur, e, -⟩
      · injection e with e1; cases e1
      · injection e with e1; injection e1 with e1; injection e1
    have hcap : ls.length ≤ c := by obtain ⟨cur, -, -, h1, -⟩ := ownN hO1.out; exact h1
    have hpg : Hid (pn ≠ g) := Lib.hid (hap.out g rfl)
    have hpl : Hid (pn < w.heap.size) := Lib.hid (World.block_lt_of_cell? w _ hc.out)
    have hK1 : Hid (Keeps (fun i => i = g) w w1) := Lib.hid (hk1'.out.mono (fun _ f => f.elim))
    have hs0 : Hid (ls.take k = ownL n (ls.take (k + 1))) := Lib.hid (by rw [ownL_next hlk, if_pos hyes, List.append_nil, ownL_all hno])
    have e1 : ((k : Int) == -1) = false := by rw [beq_eq_false_iff_ne]; omega
    clear hno hlk hyes hk1' hO hap
    go_wp2_with fail
    go_loopw [5, 6] (fun iv jv wr => ∃ (i j : Nat) (M : List LineD), j ≤ ls.length ∧ i < j ∧ iv = .int .i64 i ∧ jv = .int .i64 j ∧ M.length = ls.length ∧ Hid (M.take i = ownL n (ls.take j)) ∧ Hid (∀ q, j ≤ q → M[q]? = ls[q]?) ∧ Hid (OwnR 79 4 lineVals w0 wr (.slice (some ⟨g, 0, none⟩) M.length c) M) ∧ Hid (Keeps (fun i => i = g) w wr)) (fun _ jv _ => ls.length - (intOf jv).toNat)
    case atStart => exact ⟨k, k + 1, ls, by omega, by omega, rfl, by go_num, rfl, hs0, Lib.hid (fun _ _ => rfl), hO1, hK1⟩
    case round =>
      obtain ⟨i, j, M, hj, hij, rfl, rfl, hML, hMt, hMl, hOM, hKM⟩ := hrel
      clear hO1 hK1 hs0
      by_cases hjl : j < ls.length
      · obtain ⟨y, hy⟩ : ∃ x, ls[j]? = some x := ⟨_, List.getElem?_eq_getElem hjl⟩
        have hy2 : M[j]? = some y := by rw [hMl.out j (Nat.le_refl _)]; exact hy
        obtain ⟨g2, o2, e, hrows⟩ := (hOM.out.at lineVals_len).open (by omega)
        injection e with e; injection e with e1 e2
        subst e1; subst e2
        have hry0 := hrows j y hy2
        rw [Nat.zero_add] at hry0
        have hst := Lib.hid (ownL_next (n := n) hy)
        obtain ⟨head, name, leaf, value⟩ := y
        obtain ⟨z, hz⟩ : ∃ z, otherB n ⟨head, name, leaf, value⟩ = z := ⟨_, rfl⟩
        rw [hz] at hst
        have hcn := Lib.hid ((hKM.out.cell (p := ⟨pn, 0, none⟩) hpl.out hpg.out).trans hc.out)
        obtain ⟨X1, hX1⟩ : ∃ X : ByteArray, (⟨name.toArray⟩ : ByteArray) = X := ⟨_, rfl⟩
        obtain ⟨X2, hX2⟩ : ∃ X : ByteArray, (⟨leaf.toArray⟩ : ByteArray) = X := ⟨_, rfl⟩
        obtain ⟨X3, hX3⟩ : ∃ X : ByteArray, (⟨value.toArray⟩ : ByteArray) = X := ⟨_, rfl⟩
        have hvs : Hid (lineVals ⟨head, name, leaf, value⟩ = [.int .i64 head, .string X1, .string X2, .string X3]) := Lib.hid (by unfold lineVals strv; rw [hX1, hX2, hX3])
        have hry : Hid (wr.rangeAt g (j * 4) [.int .i64 head, .string X1, .string X2, .string X3]) := Lib.hid (by rw [← hvs.out]; exact hry0)
        have hcl : Hid (∀ W, Keeps (fun _ => False) wr W → Calls Tryz.prog 52 #[.agg #[.int .i64 head, .string X1, .string X2, .string X3], .pointer (some ⟨pn, 0, none⟩)] W fun e w' => e = .returned (.bool z) ∧ Keeps (fun _ => False) W w') := Lib.hid (fun W kW => by
          have h := advSet1_any head name leaf value n pn W ((kW.cell (p := ⟨pn, 0, none⟩) (World.block_lt_of_cell? wr _ hcn.out) id).trans hcn.out)
          rw [hz] at h
          unfold strv at h
          rw [hX1, hX2, hX3] at h
          exact h)
        have n1 : (0 : Int) ≤ (j : Int) := by omega
        have n2 : (j : Int) < (ls.length : Int) := by omega
        clear hy hy2 hrows hry0 hz hX1 hX2 hX3
        go_wp2_with (first | ((with_reducible refine at_slot 25 ?_); refine wpList_load_mid rfl 79 (.tmp 24) rfl g (j * 4) rfl _ _ hry.out Tryz.underlying79 rfl lineInfo4 ?_) | ((with_reducible refine at_store 7 ?_); refine store_new_line rfl 79 (.tmp 7) (.tmp 25) rfl _ #[.int .i64 head, .string X1, .string X2, .string X3] rfl rfl lineInfo4 rfl (line_oneD _ _ _ _) ?_; intro W1 hW1; have hk2 : Hid (Keeps (fun _ => False) wr W1) := Lib.hid (by rw [hW1.out]; exact (Keeps.refl _ _).alloc _); have hB1 : Hid (BlkAt W1 wr.heap.size 79 [.int .i64 head, .string X1, .string X2, .string X3]) := Lib.hid (by rw [hW1.out]; exact heap_alloc_last wr _)) | ((with_reducible refine at_slot 27 ?_); refine wpList_load_mid rfl 79 (.tmp 7) rfl wr.heap.size 0 rfl _ _ hB1.out.range Tryz.underlying79 rfl lineInfo4 ?_))
        refine (hcl.out _ hk2.out).mono ?_
        rintro e w3 ⟨rfl, hk3⟩
        have hk3' := Lib.hid (hk2.out.trans hk3)
        have hB3 := Lib.hid (hB1.out.keep hk3 id)
        have hO3 := Lib.hid (hOM.out.keep hk3'.out (fun _ _ f => f))
        have hK3 := Lib.hid (hKM.out.trans' hk3'.out (fun _ f => f.elim))
        clear hcl hk3 hk2 hB1 hry hcn hOM hKM hk3'
        cases z with
        | true =>
          have hMs : Hid (M.take i = ownL n (ls.take (j + 1))) := Lib.hid (by rw [hMt.out, hst.out, if_pos rfl, List.append_nil])
          have hMl2 : Hid (∀ q, j + 1 ≤ q → M[q]? = ls[q]?) := Lib.hid (fun q hq => hMl.out q (by omega))
          clear hst hMt hMl hvs hB3
          go_wp2_with fail
          exact ⟨⟨i, j + 1, M, by omega, by omega, rfl, by go_num, hML, hMs, hMl2, hO3, hK3⟩, by simp [intOf]; omega⟩
        | false =>
          have hiM : i < M.length := by omega
          have hMs : Hid ((M.set i ⟨head, name, leaf, value⟩).take (i + 1) = ownL n (ls.take (j + 1))) := Lib.hid (by
            rw [take_set_one hiM, hMt.out, hst.out, if_neg (by decide)])
          have hMl2 : Hid (∀ q, j + 1 ≤ q → (M.set i ⟨head, name, leaf, value⟩)[q]? = ls[q]?) := Lib.hid (fun q hq => by
            rw [List.getElem?_set, if_neg (by omega)]; exact hMl.out q (by omega))
          have hO9 : Hid (OwnR 79 4 lineVals w0 (w3.setCells g (i * 4) [.int .i64 head, .string X1, .string X2, .string X3]) (.slice (some ⟨g, 0, none⟩) (M.set i ⟨head, name, leaf, value⟩).length c) (M.set i ⟨head, name, leaf, value⟩)) := Lib.hid (by
            have h := setN hO3.out i ⟨head, name, leaf, value⟩ hiM
            have e9 : [Value.int .i64 head, strv name, strv leaf, strv value] = [.int .i64 head, .string X1, .string X2, .string X3] := hvs.out
            simp only at h
            rw [e9] at h
            rw [List.length_set]; exact h)
          have hK9 : Hid (Keeps (fun i => i = g) w (w3.setCells g (i * 4) [.int .i64 head, .string X1, .string X2, .string X3])) := Lib.hid (hK3.out.trans (Keeps.setCells (F := fun j => j = g) (.inl rfl) _ _ _ (Keeps.refl _ _)))
          obtain ⟨cur, hcB, -, hcM, -, hcl, -⟩ := ownN hO3.out
          have hth' : Hid (w3.there g (i * 4) 4) := Lib.hid (hcB.there (i * 4) 4 (by omega))
          have q1 : (0 : Int) ≤ (i : Int) := by omega
          have q2 : (i : Int) < (ls.length : Int) := by omega
          clear hst hMt hMl hcB hcM hcl hO3 hK3 hvs
          go_wp2_with (first | ((with_reducible refine at_slot 32 ?_); refine wpList_load_mid rfl 79 (.tmp 7) rfl wr.heap.size 0 rfl _ _ hB3.out.range Tryz.underlying79 rfl lineInfo4 ?_) | ((with_reducible refine at_store 33 ?_); refine wpList_store_mid rfl 79 (.tmp 33) (.tmp 32) rfl g (i * 4) #[.int .i64 head, .string X1, .string X2, .string X3] rfl rfl hth'.out lineInfo4 (by simp; exact ⟨rfl, rfl, rfl, rfl⟩) ?_))
          exact ⟨⟨i + 1, j + 1, M.set i ⟨head, name, leaf, value⟩, by omega, by omega, by go_num, by go_num, by simpa using hML, hMs, hMl2, hO9, hK9⟩, by simp [intOf]; omega⟩
      · obtain rfl : j = ls.length := by omega
        have hiM : i < M.length := by omega
        obtain ⟨Z, hZ⟩ := clearN (n := ls.length - i) hOM.out i hiM (by omega)
        have hfin : Hid (M.take i = ownL n ls) := Lib.hid (by rw [hMt.out, List.take_length])
        have hO9 := Lib.hid (cutN hOM.out i (by omega) Z)
        have hK9 : Hid (Keeps (fun i => i = g) w (wr.setCells g (i * 4) Z)) := Lib.hid (hKM.out.trans (Keeps.setCells (F := fun j => j = g) (.inl rfl) _ _ _ (Keeps.refl _ _)))
        have hlk9 : Hid ((ownL n ls).length = i) := Lib.hid (by rw [← hfin.out, List.length_take]; omega)
        have r1 : ¬ c = i := by omega
        have r2 : (i : Int) ≤ (ls.length : Int) := by omega
        have r3 : (0 : Int) ≤ (i : Int) := by omega
        have r4 : (i : Int) ≤ (c : Int) := by omega
        clear hMt hMl hOM hKM hjl hiM
        go_wp2_with fail
        go_ret
        rw [hfin.out] at hO9
        refine ⟨some ⟨g, 0, none⟩, c, ?_, by rw [hlk9.out]; exact hO9.out, hK9.out.mono (fun i e => .inl (by rw [e]; rfl))⟩
        rw [hlk9.out]; rfl
end Go.Proofs.YtialookpnoaogaaGreat
