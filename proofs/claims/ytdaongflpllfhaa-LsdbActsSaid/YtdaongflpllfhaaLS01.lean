/- My own small separation layer: which blocks a call may have turned; appends, copies and stores in that form. -/
import Derived.Test.YtdaongflpllfhaaProg
import Derived.WalkKit
import Derived.WalkSpells
import Derived.Lib.Hide
import Derived.BigQuiet
import Derived.Deep.QuietTactic
import Derived.Deep.MidRow
import Derived.Deep.WholeRow
import Derived.Deep.DeepFit
import Derived.Laws.CopyOwn
import Derived.Deep.RegionHeld3
import Derived.Laws.IdiomStrings
import Derived.Lib.Strings
import Derived.Laws.Cover3
import Derived.Laws.AppendOwnNone
set_option linter.unusedVariables false
set_option linter.unusedSimpArgs false
namespace Go.Proofs.Ytdaongflpllfhaa
open Go.RowKit

/-- between w and w' only blocks of F, and new ones, may have turned -/
structure Keeps (F : Nat → Prop) (w w' : World) : Prop where
  os : w'.os = w.os
  tape : w'.tape = w.tape
  output : w'.output = w.output
  size : w.heap.size ≤ w'.heap.size
  block : ∀ k, k < w.heap.size → ¬ F k → w'.heap[k]? = w.heap[k]?

theorem Keeps.refl (F : Nat → Prop) (w : World) : Keeps F w w := ⟨rfl, rfl, rfl, Nat.le_refl _, fun _ _ _ => rfl⟩
theorem Keeps.trans {F : Nat → Prop} {a b c : World} (h : Keeps F a b) (k : Keeps F b c) : Keeps F a c :=
  ⟨k.os.trans h.os, k.tape.trans h.tape, k.output.trans h.output, Nat.le_trans h.size k.size, fun i hi hn => (k.block i (Nat.lt_of_lt_of_le hi h.size) hn).trans (h.block i hi hn)⟩
/-- the second step may turn what the first one made, too -/
theorem Keeps.trans' {F G : Nat → Prop} {a b c : World} (h : Keeps F a b) (k : Keeps G b c) (hG : ∀ i, G i → F i ∨ a.heap.size ≤ i) : Keeps F a c :=
  ⟨k.os.trans h.os, k.tape.trans h.tape, k.output.trans h.output, Nat.le_trans h.size k.size, fun i hi hn =>
    (k.block i (Nat.lt_of_lt_of_le hi h.size) (fun g => by rcases hG i g with h | h; exact hn h; omega)).trans (h.block i hi hn)⟩
theorem Keeps.mono {F G : Nat → Prop} {a b : World} (h : Keeps F a b) (hG : ∀ i, F i → G i ∨ a.heap.size ≤ i) : Keeps G a b :=
  ⟨h.os, h.tape, h.output, h.size, fun i hi hn => h.block i hi (fun f => by rcases hG i f with h | h; exact hn h; omega)⟩
theorem Keeps.alloc {F : Nat → Prop} {a b : World} (h : Keeps F a b) (o : Obj) : Keeps F a (b.alloc o) :=
  h.trans ⟨rfl, rfl, rfl, by simp, fun k hk _ => Below.heap_alloc b o k hk⟩
theorem Keeps.drew {F : Nat → Prop} {a b : World} (h : Keeps F a b) : Keeps F a b.drew := ⟨h.os, h.tape, h.output, h.size, h.block⟩
theorem Keeps.drewN {F : Nat → Prop} {a b : World} (h : Keeps F a b) (n : Nat) : Keeps F a (b.drewN n) := ⟨h.os, h.tape, h.output, h.size, h.block⟩
theorem Keeps.setCell {F : Nat → Prop} {a b : World} (h : Keeps F a b) {p : Addr} (hp : F p.block ∨ a.heap.size ≤ p.block) (v : Value) : Keeps F a (b.setCell p v) :=
  ⟨h.os, h.tape, h.output, by simp [World.setCell]; exact h.size, fun k hk hn => (heap_setCell_other b p k v (fun e => by subst e; rcases hp with h | h; exact hn h; omega)).trans (h.block k hk hn)⟩
theorem Keeps.setCells {F : Nat → Prop} {a : World} {g : Nat} (hp : F g ∨ a.heap.size ≤ g) : ∀ (vs : List Value) (o : Nat) (b : World), Keeps F a b → Keeps F a (b.setCells g o vs)
  | [], _, _, h => h
  | v :: r, o, b, h => by rw [World.setCells]; exact Keeps.setCells hp r (o + 1) _ (h.setCell (p := ⟨g, o, none⟩) hp v)
theorem Keeps.setRow {F : Nat → Prop} {a b : World} (h : Keeps F a b) {g : Nat} (hp : F g ∨ a.heap.size ≤ g) (cs : Array Value) : Keeps F a (b.setRow g cs) :=
  ⟨h.os, h.tape, h.output, by simp; exact h.size, fun k hk hn => (setRow_other b g k cs (fun e => by subst e; rcases hp with h | h; exact hn h; omega)).trans (h.block k hk hn)⟩
theorem Keeps.grown {F : Nat → Prop} {a b c : World} {row : Option Nat} (h : Keeps F a b) (hg : b.grownBy c row) (hr : ∀ k, row = some k → F k ∨ a.heap.size ≤ k) : Keeps F a c :=
  ⟨hg.os.trans h.os, hg.tape.trans h.tape, hg.output.trans h.output, Nat.le_trans h.size hg.size, fun k hk hn =>
    (hg.block k (Nat.lt_of_lt_of_le hk h.size) (fun e => by rcases hr k e.symm with h | h; exact hn h; omega)).trans (h.block k hk hn)⟩
theorem Keeps.below {F : Nat → Prop} {a b : World} {B : Nat} (h : Keeps F a b) (hB : B ≤ a.heap.size) (hF : ∀ k, F k → B ≤ k) : Below B a b :=
  ⟨h.os, h.tape, h.output, h.size, fun k hk => h.block k (by omega) (fun f => by have := hF k f; omega)⟩
theorem Keeps.cell {F : Nat → Prop} {a b : World} (h : Keeps F a b) {p : Addr} (hp : p.block < a.heap.size) (hF : ¬ F p.block) : b.cell? p = a.cell? p := World.cell?_of_block (h.block _ hp hF)
theorem Keeps.frozen {F : Nat → Prop} {a b : World} (h : Keeps F a b) {p : Addr} (hp : p.block < a.heap.size) (hF : ¬ F p.block) : b.frozen? p = a.frozen? p := World.frozen?_of_block (h.block _ hp hF)
theorem Keeps.rangeAt {F : Nat → Prop} {a b : World} (h : Keeps F a b) {g o : Nat} {cs : List Value} (hr : a.rangeAt g o cs) (hF : ¬ F g) : b.rangeAt g o cs := fun j v hv => by
  have h1 := hr j v hv
  rw [h.cell (p := ⟨g, o + j, none⟩) (World.block_lt_of_cell? a _ h1) hF]; exact h1
theorem Keeps.ownsRow {F : Nat → Prop} {a b : World} (h : Keeps F a b) {base : Nat} {e : TypeId} {size : Nat} {v : Value} {n : Nat} {xs : List Value} (hr : a.ownsRow base e size v n xs)
    (hF : ∀ k, v.ownBlock = some k → ¬ F k) : b.ownsRow base e size v n xs := by
  refine ⟨hr.1, ?_⟩
  rcases hr.2 with hn | ⟨g, cap, cur, rfl, hb, hgg, rest⟩
  · exact .inl hn
  · exact .inr ⟨g, cap, cur, rfl, hb, by rw [h.block g (lt_of_block hgg) (hF g rfl)]; exact hgg, rest⟩

/-- an append to a nil slice or to an owned row: the row behind it is the same block, or a new one -/
theorem run_append_sep {P : Program} (w : World) (t ty e : TypeId) (i : TypeInfo) (z : Value) (size bytes : Nat) (ht : P.underlying t = some (.slice e)) (hi : P.info? e = some i) (hz : i.zero = some z)
    (hsize : i.size = size) (hby : i.bytes = bytes) (hzs : z.cells.size = size) (hsz : 0 < size)
    (v : Value) (n : Nat) (xs : List Value) (hown : w.ownsRow 0 e size v n xs)
    (a : Addr) (m c : Nat) (news : List Value) (hl : news.length = m * size) (hnews : ∀ j u, news[j]? = some u → w.cell? (a.add j) = some u) (h1 : ∀ u ∈ news, u.oneCell' = true)
    (h63 : n + m ≤ maxLen) (hbytes : (n + m) * bytes ≤ 140737488355328) :
    ∃ v' w', (Builtin.append_ #[t, t] ty #[v, .slice (some a) m c]).run P w = .ok v' w' ∧ w'.ownsRow 0 e size v' (n + m) (xs ++ news) ∧ w.grownBy w' v.ownBlock ∧
      (∀ k, v'.ownBlock = some k → v.ownBlock = some k ∨ w.heap.size ≤ k) := by
  obtain ⟨v', w', hr, h2, h3, h4⟩ := run_append_own (P := P) w 0 t ty e i z size bytes ht hi hz hsize hby hzs hsz v n xs hown a m c news hl hnews h1 h63 hbytes (Nat.zero_le _)
  refine ⟨v', w', hr, h2, h3, ?_⟩
  subst hsize; subst hby
  have hsmall : n + m ≤ 9223372036854775807 := by simp only [maxLen] at h63; omega
  rcases hown.2 with ⟨rfl, rfl⟩ | ⟨g, cap, cur, rfl, hbg, hg, hnc, hcm, hcs, htake⟩
  · by_cases hm : m = 0
    · rw [h4.2 ⟨rfl, hm⟩]; simp [Value.ownBlock]
    · have e := run_append_nil (P := P) w t ty e i z ht hi hz a m c news hl hnews (by omega) (by omega) (by have hb := hbytes; simp only [Nat.zero_add] at hb; omega)
      rw [hr] at e; injection e with e1 e2; subst e1
      intro k hk; simp only [Value.ownBlock, Option.some.injEq] at hk; right; omega
  · by_cases hroom : n + m ≤ cap
    · have hfit : n * i.size + news.length ≤ cur.size := by rw [hl, hcs, ← Nat.add_mul]; exact Nat.mul_le_mul_right _ hroom
      have e := run_append_room (P := P) w t ty e i ht hi g n cap cur hg a m c news hl hnews h1 hroom hfit
      rw [hr] at e; injection e with e1 e2; subst e1
      intro k hk; left; exact hk
    · have holds : ∀ j u, xs[j]? = some u → w.cell? ((⟨g, 0, none⟩ : Addr).add j) = some u := hown.cells (g := g) rfl
      have e := run_append_grow (P := P) w t ty e i z ht hi hz ⟨g, 0, none⟩ n cap xs hown.1 holds a m c news hl hnews (by omega) (by omega) (growslice_fits (by omega) hbytes)
      rw [hr] at e; injection e with e1 e2; subst e1
      intro k hk; simp only [Value.ownBlock, Option.some.injEq] at hk; right; omega

theorem ownsRow_slice {w : World} {base : Nat} {e : TypeId} {size : Nat} {v : Value} {n : Nat} {xs : List Value} (h : w.ownsRow base e size v n xs) : ∃ p c, v = .slice p n c := by
  rcases h.2 with ⟨rfl, rfl⟩ | ⟨g, cap, cur, rfl, _⟩
  · exact ⟨none, 0, rfl⟩
  · exact ⟨_, cap, rfl⟩

theorem wpList_append_sep {P : Program} {w : World} {ops : Array Oper} {rest : List Oper} {o : Oper} {a : Act} {Q : Exit → Act → World → Prop} (hgd : o.guard = none) (s x : Operand) (t : TypeId)
    (ho : o.op = .call { callee := .builtin .append, args := #[s, x], argTypes := #[t, t] })
    (e : TypeId) (i : TypeInfo) (z : Value) (size bytes : Nat) (ht : P.underlying t = some (.slice e)) (hi : P.info? e = some i) (hz : i.zero = some z)
    (hsize : i.size = size) (hby : i.bytes = bytes) (hzs : z.cells.size = size) (hsz : 0 < size)
    (v : Value) (n : Nat) (xs : List Value) (hs : a.eval s = v) (hown : w.ownsRow 0 e size v n xs)
    (ad : Addr) (m c : Nat) (news : List Value) (hx : a.eval x = .slice (some ad) m c) (hl : news.length = m * size) (hnews : ∀ j u, news[j]? = some u → w.cell? (ad.add j) = some u) (h1 : ∀ u ∈ news, u.oneCell' = true)
    (h63 : n + m ≤ maxLen) (hbytes : (n + m) * bytes ≤ 140737488355328)
    (h : ∀ p c w', w'.ownsRow 0 e size (.slice p (n + m) c) (n + m) (xs ++ news) → w.grownBy w' v.ownBlock → Hid (∀ k, (Value.slice p (n + m) c).ownBlock = some k → v.ownBlock = some k ∨ w.heap.size ≤ k) → wpList P ops Q rest (a.put o.dst (.slice p (n + m) c)) w') : wpList P ops Q (o :: rest) a w :=
  wpList_plain hgd fun _ hK => by
    obtain ⟨v', w', hr, h2, h3, h4⟩ := run_append_sep (P := P) w t o.type e i z size bytes ht hi hz hsize hby hzs hsz v n xs hown ad m c news hl hnews h1 h63 hbytes
    unfold Oper.wp execOp
    simp only [ho, resolve, invoke, builtin, Sem.run_bind, Sem.run_pure, Result.andThen_ok, List.map_toArray, List.map_cons, List.map_nil, hs, hx, hr]
    obtain ⟨p, c, rfl⟩ := ownsRow_slice h2
    exact hK _ _ (h p c w' h2 h3 h4)

/-- a whole array stored into the block that was made last -/
theorem wpList_store_new {P : Program} {ops : Array Oper} {rest : List Oper} {op : Oper} {a : Act} {w : World} {Q : Exit → Act → World → Prop} (hgd : op.guard = none) (ty : TypeId) (x y : Operand) (ho : op.op = .store ty x y)
    (c c' : Array Value) (hx : a.eval x = .pointer (some ⟨w.heap.size, 0, none⟩)) (hy : a.eval y = .agg c')
    (hi : (P.info? ty).map (·.size) = some c'.size) (hs : c.size = c'.size) (h1 : c'.all (·.oneCell') = true)
    (h : wpList P ops Q rest (a.put op.dst undef) (w.alloc (.cells c' ty))) : wpList P ops Q (op :: rest) a (w.alloc (.cells c ty)) :=
  wpList_plain hgd fun _ hK => by
    unfold Oper.wp execOp
    simp only [ho, hx, hy, Sem.run_bind, Result.andThen, run_storeAt_new w ty c c' hi hs h1]
    exact hK _ _ h

/-- copy into cells that are there -/
theorem wpList_copy_cells {P : Program} {w : World} {ops : Array Oper} {rest : List Oper} {o : Oper} {a : Act} {Q : Exit → Act → World → Prop} (hgd : o.guard = none) (d s : Operand) (dT sT : TypeId)
    (ho : o.op = .call { callee := .builtin .copy, args := #[d, s], argTypes := #[dT, sT] }) (elem : TypeId) (hu : P.underlying dT = some (.slice elem)) (hsz : (P.info? elem).map (·.size) = some 1)
    (g off dLen dCap : Nat) (ad : Addr) (sLen sCap : Nat) (hd : a.eval d = .slice (some ⟨g, off, none⟩) dLen dCap) (hs : a.eval s = .slice (some ad) sLen sCap)
    (cs : List Value) (hn : cs.length = Nat.min sLen dLen)
    (hsrc : ∀ j v, cs[j]? = some v → w.cell? (ad.add j) = some v) (hth : w.there g off cs.length) (h1 : ∀ v ∈ cs, v.oneCell' = true)
    (h : wpList P ops Q rest (a.put o.dst (goInt cs.length)) (w.setCells g off cs)) : wpList P ops Q (o :: rest) a w := by
  refine wpList_plain hgd fun K hK => ?_
  have hrun := run_copy_cells (P := P) w dT sT o.type elem g off dLen dCap ad sLen sCap cs hu hsz hn hsrc (fun j hj => (hth j hj).1) (fun j hj => (hth j hj).2) h1
  unfold Oper.wp
  simp [execOp, ho, resolve, invoke, builtin, hd, hs, hrun, Result.andThen]
  exact hK _ _ h

/-- the cells of a block that was made last -/
theorem cells_new {w : World} {n : Nat} (hn : n = w.heap.size) (vs : List Value) (t : TypeId) : ∀ j u, vs[j]? = some u → (w.alloc (.cells vs.toArray t)).cell? ((⟨n, 0, none⟩ : Addr).add j) = some u := by
  intro j u hu
  subst hn
  rw [Addr.add_mid, cell_of_row _ _ _ _ _ _ (heap_alloc_last w _)]
  simpa using hu
theorem cells_one {w : World} {n : Nat} (hn : n = w.heap.size) (v : Value) (t : TypeId) : ∀ j u, [v][j]? = some u → (w.alloc (.cells #[v] t)).cell? ((⟨n, 0, none⟩ : Addr).add j) = some u :=
  cells_new hn [v] t
/-- guards: the next operation writes slot d; the next operation is a store through slot d -/
theorem at_slot {P : Program} {ops : Array Oper} {rest : List Oper} {a : Act} {w : World} {Q : Exit → Act → World → Prop} (d : Tmp) {op : Op} {ty : TypeId} {pos : String} {after : Array Edge} {gd : Option (Nat × Bool)}
    (h : wpList P ops Q (⟨some d, op, ty, pos, after, gd⟩ :: rest) a w) : wpList P ops Q (⟨some d, op, ty, pos, after, gd⟩ :: rest) a w := h
theorem at_store {P : Program} {ops : Array Oper} {rest : List Oper} {a : Act} {w : World} {Q : Exit → Act → World → Prop} (d : Tmp) {t : TypeId} {y : Operand} {ty : TypeId} {pos : String} {after : Array Edge} {gd : Option (Nat × Bool)}
    (h : wpList P ops Q (⟨none, .store t (.tmp d) y, ty, pos, after, gd⟩ :: rest) a w) : wpList P ops Q (⟨none, .store t (.tmp d) y, ty, pos, after, gd⟩ :: rest) a w := h
end Go.Proofs.Ytdaongflpllfhaa
/- Generic: steps through a region that draws its order; boxes and blocks of cells. -/
namespace Go.Proofs.Ytdaongflpllfhaa
open Go.RowKit

/-! steps through a region that draws its order, the operation read off the list -/
section
variable {P : Program} {l : List Oper} {Q : Exit → Act → World → Prop} {md : Region.Mode} {S : World → Prop}
theorem takeL (i : Nat) {oi : Oper} {v : Value} {fuel : Nat} {listed : Array Bool} {a : Act} {w : World} (hi : l[i]? = some oi)
    (hs : Region.noSelect l.toArray = true) (hf : Region.free md l.toArray listed i = true) (hr : (Region.ready md l.toArray listed).contains i = true)
    (hQ : ∀ c a w, Q (.panic c) (a.put oi.dst v) w → Q (.panic c) a w) (hy : YieldsIf P l.toArray S oi v a) (hS : S w)
    (h : wpAnyH P md l.toArray Q S fuel (listed.setIfInBounds i true) (a.put oi.dst v) w) : wpAnyH P md l.toArray Q S (fuel + 1) listed a w :=
  wpAnyH_take (i := i) (by simpa using hi) hs hf hr hQ hy hS h
theorem sA {α : Type} {l : List α} {i : Nat} {a : α} : l.toArray.setIfInBounds i a = (l.set i a).toArray := List.setIfInBounds_toArray ..
theorem sZ {α : Type} {xs : List α} {b a : α} : (a :: xs).set 0 b = b :: xs := rfl
theorem sS {α : Type} {xs : List α} {n : Nat} {b a : α} : (a :: xs).set (n + 1) b = a :: xs.set n b := rfl
theorem tk (i : Nat) {oi : Oper} {v : Value} {fuel : Nat} {listed : Array Bool} {a a' : Act} {w : World} (hi : l[i]? = some oi) (h : wpAnyH P md l.toArray Q S fuel (listed.setIfInBounds i true) a' w)
    (hs : Region.noSelect l.toArray = true := by kernel_rfl) (hf : Region.free md l.toArray listed i = true := by kernel_rfl) (hr : (Region.ready md l.toArray listed).contains i = true := by kernel_rfl)
    (hw : Region.wanted oi (yielded l.toArray a.tmps) = true := by rfl) (hy : ∀ w, S w → (execOp a.eval oi).run P w = .ok (.value v) w := by (intro wS hSw; go_simp; try with_reducible rfl))
    (ha : a.put oi.dst v = a' := by (try simp only [Act.put, sA, sZ, sS]; rfl))
    (hQ : ∀ c a w, Q (.panic c) (a.put oi.dst v) w → Q (.panic c) a w := by exact fun _ _ _ h => h) (hS : S w := by assumption) : wpAnyH P md l.toArray Q S (fuel + 1) listed a w :=
  takeL i hi hs hf hr hQ (Or.inl ⟨hw, hy⟩) hS (by rw [ha]; exact h)
theorem tkS (i : Nat) {oi : Oper} {fuel : Nat} {listed : Array Bool} {a a' : Act} {w : World} (hi : l[i]? = some oi) (h : wpAnyH P md l.toArray Q S fuel (listed.setIfInBounds i true) a' w)
    (hs : Region.noSelect l.toArray = true := by kernel_rfl) (hf : Region.free md l.toArray listed i = true := by kernel_rfl) (hr : (Region.ready md l.toArray listed).contains i = true := by kernel_rfl)
    (hw : Region.wanted oi (yielded l.toArray a.tmps) = false := by rfl)
    (ha : a.put oi.dst undef = a' := by (try simp only [Act.put, sA, sZ, sS]; rfl))
    (hQ : ∀ c a w, Q (.panic c) (a.put oi.dst undef) w → Q (.panic c) a w := by exact fun _ _ _ h => h) (hS : S w := by assumption) : wpAnyH P md l.toArray Q S (fuel + 1) listed a w :=
  takeL i hi hs hf hr hQ (Or.inr ⟨hw, rfl⟩) hS (by rw [ha]; exact h)
theorem tkL (i : Nat) {oi : Oper} {v : Value} {fuel : Nat} {listed : Array Bool} {a a' : Act} {w : World} (hi : l[i]? = some oi) (hy : YieldsIf P l.toArray S oi v a) (h : wpAnyH P md l.toArray Q S fuel (listed.setIfInBounds i true) a' w)
    (hs : Region.noSelect l.toArray = true := by kernel_rfl) (hf : Region.free md l.toArray listed i = true := by kernel_rfl) (hr : (Region.ready md l.toArray listed).contains i = true := by kernel_rfl)
    (ha : a.put oi.dst v = a' := by (try simp only [Act.put, sA, sZ, sS]; rfl))
    (hQ : ∀ c a w, Q (.panic c) (a.put oi.dst v) w → Q (.panic c) a w := by exact fun _ _ _ h => h) (hS : S w := by assumption) : wpAnyH P md l.toArray Q S (fuel + 1) listed a w :=
  takeL i hi hs hf hr hQ hy hS (by rw [ha]; exact h)
theorem step2L (i j : Nat) {fuel : Nat} {listed : Array Bool} {a : Act} {w : World} {o u : Oper} (ho : l[i]? = some o) (hu : l[j]? = some u) (hr : Region.ready md l.toArray listed = [i, j])
    (h : ∀ K' : Act → World → Prop, Shut (∀ a w, S w → (S w → wpAnyH P md l.toArray Q S fuel (listed.setIfInBounds i true) a w) → K' a w) → if Region.wanted o (yielded l.toArray a.tmps) = true then Oper.wp P o a w K' Q else K' (a.put o.dst undef) w)
    (h2 : ∀ K' : Act → World → Prop, Shut (∀ a w, S w → (S w → wpAnyH P md l.toArray Q S fuel (listed.setIfInBounds j true) a w) → K' a w) → if Region.wanted u (yielded l.toArray a.tmps) = true then Oper.wp P u a w K' Q else K' (a.put u.dst undef) w) :
    wpAnyH P md l.toArray Q S (fuel + 1) listed a w :=
  wpAnyH_ready hr (by simp) (AllReadyH.cons (by simpa using ho) h (AllReadyH.cons (by simpa using hu) h2 AllReadyH.nil))
theorem stepL (i : Nat) {fuel : Nat} {listed : Array Bool} {a : Act} {w : World} {o : Oper} (ho : l[i]? = some o) (hr : Region.ready md l.toArray listed = [i])
    (h : ∀ K' : Act → World → Prop, Shut (∀ a w, S w → (S w → wpAnyH P md l.toArray Q S fuel (listed.setIfInBounds i true) a w) → K' a w) → if Region.wanted o (yielded l.toArray a.tmps) = true then Oper.wp P o a w K' Q else K' (a.put o.dst undef) w) :
    wpAnyH P md l.toArray Q S (fuel + 1) listed a w :=
  wpAnyH_ready hr (by simp) (AllReadyH.cons (by simpa using ho) h AllReadyH.nil)
end

theorem heap_put {w : World} {b : Nat} {cs : Array Value} {t : TypeId} (h : w.heap[b]? = some (.cells cs t (0, 0))) (o : Nat) (v : Value) : (w.setCell ⟨b, o, none⟩ v).heap[b]? = some (.cells (cs.setIfInBounds o v) t (0, 0)) :=
  heap_setCell_same w b o cs t v h
theorem rangeAt_cell {w : World} {g : Nat} {cs : List Value} (h : w.rangeAt g 0 cs) (j : Nat) (v : Value) (hv : cs[j]? = some v) : w.cell? ⟨g, j, none⟩ = some v := by
  have := h j v hv; rwa [Nat.zero_add] at this
theorem yieldsIf_load_cell {P : Program} {ops : Array Oper} {S : World → Prop} {op : Oper} {a : Act} (hw : Region.wanted op (yielded ops a.tmps) = true) (ty : TypeId) (x : Operand) (ho : op.op = .load ty x)
    (b o : Nat) (hx : a.eval x = .pointer (some ⟨b, o, none⟩)) (v : Value) (hS : ∀ w, S w → w.cell? ⟨b, o, none⟩ = some v)
    (hl : ∀ w, w.cell? ⟨b, o, none⟩ = some v → (loadVar ty ⟨b, o, none⟩).run P w = .ok v w) : YieldsIf P ops S op v a :=
  .inl ⟨hw, fun w hw' => by
    unfold execOp
    simp only [ho, hx, Instr.loadAt, Instr.sureAddr, Sem.run_bind, Sem.run_pure, Result.andThen_ok, hl w (hS w hw')]⟩
/-- a box of cells, and what was there, are as they were -/
structure Boxed (B : Nat) (cs : List Value) (w0 W : World) : Prop where
  r : W.rangeAt B 0 cs
  k : Keeps (fun _ => False) w0 W
theorem Boxed.next {B : Nat} {cs : List Value} {w0 W W' : World} (s : Boxed B cs w0 W) (k : Keeps (fun _ => False) W W') : Boxed B cs w0 W' := ⟨k.rangeAt s.r id, s.k.trans k⟩
theorem Boxed.cell {B : Nat} {cs : List Value} {w0 W : World} (s : Boxed B cs w0 W) (j : Nat) (v : Value) (h : cs[j]? = some v) : W.cell? ⟨B, j, none⟩ = some v := by
  have := s.r j v h; rwa [Nat.zero_add] at this
theorem new_rangeb (w : World) (L : List Value) (t : TypeId) : (w.alloc (.cells L.toArray t)).rangeAt w.heap.size 0 L := fun j u hu => by
  have := cells_new (w := w) (n := w.heap.size) rfl L t j u hu
  rw [Addr.add_mid] at this; exact this
theorem boxed_new0 (w : World) (cs : List Value) (t : TypeId) : Boxed w.heap.size cs (w.alloc (.cells cs.toArray t)) (w.alloc (.cells cs.toArray t)) := ⟨fun j u hu => by
  have := cells_new (w := w) (n := w.heap.size) rfl cs t j u hu
  rw [Addr.add_mid] at this; exact this, Keeps.refl _ _⟩
theorem boxed_new (w : World) (cs : List Value) (t : TypeId) : Boxed w.heap.size cs w (w.alloc (.cells cs.toArray t)) := ⟨fun j u hu => by
  have := cells_new (w := w) (n := w.heap.size) rfl cs t j u hu
  rw [Addr.add_mid] at this; exact this, (Keeps.refl _ _).alloc _⟩
/-- a block that is these cells -/
def BlkAt (W : World) (B : Nat) (t : TypeId) (cs : List Value) : Prop := W.heap[B]? = some (.cells cs.toArray t (0, 0))
theorem BlkAt.keep {F : Nat → Prop} {w w' : World} {g : Nat} {t : TypeId} {x : List Value} (h : BlkAt w g t x) (k : Keeps F w w') (hF : ¬ F g) : BlkAt w' g t x := by
  unfold BlkAt; rw [k.block g (lt_of_block h) hF]; exact h
theorem BlkAt.range {w : World} {g : Nat} {t : TypeId} {x : List Value} (h : BlkAt w g t x) : w.rangeAt g 0 x := fun j u hu => by
  have h : w.heap[g]? = _ := h
  simp [World.cell?, h]; simpa using hu
theorem BlkAt.rng {w : World} {g : Nat} {t : TypeId} {x y : List Value} (h : BlkAt w g t x) (e : x = y) : w.rangeAt g 0 y := by rw [← e]; exact h.range
theorem BlkAt.cell {w : World} {g : Nat} {t : TypeId} {x : List Value} (h : BlkAt w g t x) (j : Nat) (v : Value) (hv : x[j]? = some v) : w.cell? ⟨g, j, none⟩ = some v := rangeAt_cell h.range j v hv
theorem BlkAt.frozen {w : World} {g : Nat} {t : TypeId} {x : List Value} (h : BlkAt w g t x) (o : Nat) : w.frozen? ⟨g, o, none⟩ = false := by
  have h : w.heap[g]? = _ := h
  simp [World.frozen?, h]
theorem BlkAt.set {w : World} {g : Nat} {t : TypeId} {x : List Value} (h : BlkAt w g t x) (i : Nat) (v : Value) : BlkAt (w.setCell ⟨g, i, none⟩ v) g t (x.set i v) := by
  unfold BlkAt
  rw [heap_put h]
  simp
theorem BlkAt.there {w : World} {g : Nat} {t : TypeId} {x : List Value} (h : BlkAt w g t x) (o n : Nat) (hn : o + n ≤ x.length) : w.there g o n := fun j hj => by
  have h : w.heap[g]? = _ := h
  refine ⟨?_, ?_⟩
  · simp [World.cell?, h]; omega
  · simp [World.frozen?, h]
theorem BlkAt.new (w : World) (t : TypeId) (x : List Value) : BlkAt (w.alloc (.cells x.toArray t)) w.heap.size t x := heap_alloc_last w _
theorem BlkAt.alloc {w : World} {g : Nat} {t : TypeId} {x : List Value} (h : BlkAt w g t x) (o : Obj) : BlkAt (w.alloc o) g t x := h.keep ((Keeps.refl (fun _ => False) w).alloc o) id
theorem wpList_store_blk {P : Program} {ops : Array Oper} {rest : List Oper} {op : Oper} {a : Act} {w : World} {Q : Exit → Act → World → Prop} (hgd : op.guard = none) (ty : TypeId) (x y : Operand) (ho : op.op = .store ty x y)
    (b : Nat) (cells : Array Value) (hx : a.eval x = .pointer (some ⟨b, 0, none⟩)) (hy : a.eval y = .agg cells)
    (ht : w.there b 0 cells.size) (hi : (P.info? ty).map (·.size) = some cells.size) (h1 : cells.all (·.oneCell') = true)
    (h : ∀ w1, Hid (w1.rangeAt b 0 cells.toList) → Hid (Keeps (fun i => i = b) w w1) → wpList P ops Q rest (a.put op.dst undef) w1) : wpList P ops Q (op :: rest) a w :=
  wpList_store_mid hgd ty x y ho b 0 cells hx hy ht hi h1 (h _ (Lib.hid (World.rangeAt_setCells_same _ _ _ _ (by simpa using ht))) (Lib.hid (Keeps.setCells (F := fun i => i = b) (.inl rfl) _ _ _ (Keeps.refl _ _))))
theorem slice_one (p : Option Addr) (n c : Nat) : (Value.slice p n c).oneCell' = true := rfl
/-- a guarded load of a struct -/
theorem wpList_load_mid_gd {P : Program} {ops : Array Oper} {rest : List Oper} {op : Oper} {a : Act} {w : World} {Q : Exit → Act → World → Prop} (hgd : Region.wanted op (yielded ops a.tmps) = true) (ty : TypeId) (x : Operand) (ho : op.op = .load ty x)
    (b o : Nat) (hx : a.eval x = .pointer (some ⟨b, o, none⟩)) (cs : List Value) (d : TypeDesc) (hc : w.rangeAt b o cs)
    (hu : P.underlying ty = some d) (hd : d.isRow = true) (hi : (P.info? ty).map (·.size) = some cs.length)
    (h : wpList P ops Q rest (a.put op.dst (.agg cs.toArray)) w) : wpList P ops Q (op :: rest) a w :=
  wpList_step fun K hK => by rw [if_pos hgd]; exact wp_load_mid ty x ho b o hx cs d hc hu hd hi (hK _ _ h)
end Go.Proofs.Ytdaongflpllfhaa
/- Bytes in memory, in blocks of their own or not; numbers as bytes; steps through a drawn region. -/
namespace Go.Proofs.Ytdaongflpllfhaa
open Go.RowKit

theorem u8Info : (Try.prog.info? 5).map (·.size) = some 1 := by kernel_rfl
theorem u8InfoAll : (Try.prog.info? 5).map (fun i => (i.zero, i.size, i.bytes)) = some (some (.int .u8 0), 1, 1) := by kernel_rfl
def bv (x : UInt8) : Value := .int .u8 x.toNat
theorem bv_one (l : List UInt8) : ∀ v ∈ l.map bv, v.oneCell' = true := by
  intro v hv; obtain ⟨x, _, rfl⟩ := List.mem_map.1 hv; rfl

/-- a block of so many cells of a type, none frozen -/
def World.blockAt (w : World) (g : Nat) (t : TypeId) (n : Nat) : Prop := ∃ C : Array Value, w.heap[g]? = some (.cells C t (0, 0)) ∧ C.size = n
theorem World.blockAt.lt {w : World} {g t n : Nat} (h : World.blockAt w g t n) : g < w.heap.size := by obtain ⟨C, h, _⟩ := h; exact lt_of_block h
theorem World.blockAt.setCell {w : World} {g t n : Nat} (h : World.blockAt w g t n) (p : Addr) (v : Value) : World.blockAt (w.setCell p v) g t n := by
  obtain ⟨C, h, hn⟩ := h
  by_cases e : g = p.block
  · subst e
    obtain ⟨b, o, s⟩ := p
    refine ⟨if s.isSome then C else C.setIfInBounds o v, ?_, by split <;> simpa using hn⟩
    have hlt := lt_of_block h
    simp only [World.setCell, Array.getElem?_modify]
    simp [h]
  · exact ⟨C, by rw [heap_setCell_other w p g v e]; exact h, hn⟩
theorem World.blockAt.setCells {g t n : Nat} (b : Nat) : ∀ (vs : List Value) (o : Nat) (w : World), World.blockAt w g t n → World.blockAt (w.setCells b o vs) g t n
  | [], _, _, h => h
  | v :: r, o, w, h => by rw [World.setCells]; exact World.blockAt.setCells b r (o + 1) _ (h.setCell _ v)
theorem World.blockAt.there {w : World} {g t n : Nat} (h : World.blockAt w g t n) (o m : Nat) (hm : o + m ≤ n) : w.there g o m := by
  obtain ⟨C, h, hn⟩ := h
  intro j hj
  refine ⟨?_, ?_⟩
  · simp [World.cell?, h]; omega
  · simp [World.frozen?, h]
theorem World.blockAt.frozen {w : World} {g t n : Nat} (h : World.blockAt w g t n) (o : Nat) : w.frozen? ⟨g, o, none⟩ = false := by
  obtain ⟨C, h, _⟩ := h; simp [World.frozen?, h]
theorem World.blockAt.keep {F : Nat → Prop} {w w' : World} {g t n : Nat} (h : World.blockAt w g t n) (k : Keeps F w w') (hF : ¬ F g) : World.blockAt w' g t n := by
  have hl := h.lt
  obtain ⟨C, h, hn⟩ := h
  exact ⟨C, by rw [k.block g hl hF]; exact h, hn⟩

/-- a slice of bytes reads as these -/
def BytesAt (w : World) (v : Value) (x : List UInt8) : Prop :=
  ∃ p c, v = .slice p x.length c ∧ (p = none → c = 0) ∧ x.length ≤ c ∧ (0 < x.length → ∃ b o, p = some ⟨b, o, none⟩ ∧ w.rangeAt b o (x.map bv))
theorem BytesAt.keepF {F : Nat → Prop} {w w' : World} {v : Value} {x : List UInt8} (h : BytesAt w v x) (k : Keeps F w w') (hF : 0 < x.length → ∀ i, v.ownBlock = some i → ¬ F i) : BytesAt w' v x := by
  obtain ⟨p, c, rfl, hp, hc, h⟩ := h
  exact ⟨p, c, rfl, hp, hc, fun h0 => by obtain ⟨b, o, rfl, hr⟩ := h h0; exact ⟨b, o, rfl, k.rangeAt hr (hF h0 b rfl)⟩⟩
theorem BytesAt.keep {w w' : World} {v : Value} {x : List UInt8} (h : BytesAt w v x) (k : Keeps (fun _ => False) w w') : BytesAt w' v x := h.keepF k (fun _ _ _ f => f)
theorem BytesAt.nil (w : World) : BytesAt w (.slice none 0 0) [] := ⟨none, 0, rfl, fun _ => rfl, Nat.le_refl _, fun h => by simp at h⟩
theorem BytesAt.of {w : World} {g o n c : Nat} {x : List UInt8} (hn : x.length = n) (hc : n ≤ c) (h : w.rangeAt g o (x.map bv)) : BytesAt w (.slice (some ⟨g, o, none⟩) n c) x :=
  ⟨some ⟨g, o, none⟩, c, by rw [hn], (fun h => nomatch h), by omega, fun _ => ⟨g, o, rfl, h⟩⟩
theorem range_part {w : World} {g o : Nat} {x : List UInt8} (h : w.rangeAt g o (x.map bv)) (i n : Nat) : w.rangeAt g (o + i) (((x.drop i).take n).map bv) := fun j u hu => by
  rw [List.map_take, List.getElem?_take] at hu
  split at hu
  · rw [List.map_drop, List.getElem?_drop] at hu
    have := h (i + j) u hu
    rw [Nat.add_assoc]; exact this
  · cases hu
/-- l over the bytes of x from i on -/
def patch (x : List UInt8) (i : Nat) (l : List UInt8) : List UInt8 := x.take i ++ l ++ x.drop (i + l.length)
theorem patch_len (x : List UInt8) (i : Nat) (l : List UInt8) (h : i + l.length ≤ x.length) : (patch x i l).length = x.length := by
  unfold patch; simp; omega
theorem patch_nil (x : List UInt8) (i : Nat) : patch x i [] = x := by unfold patch; simp
theorem patch_get (x : List UInt8) (i : Nat) (l : List UInt8) (h : i + l.length ≤ x.length) (j : Nat) : (patch x i l)[j]? = if i ≤ j ∧ j < i + l.length then l[j - i]? else x[j]? := by
  unfold patch
  rw [List.append_assoc, List.getElem?_append, List.getElem?_append, List.getElem?_take, List.getElem?_drop]
  have h1 : (x.take i).length = i := by simp; omega
  rw [h1]
  by_cases hj : j < i
  · rw [if_pos hj, if_pos hj, if_neg (by omega)]
  · rw [if_neg hj]
    by_cases hj2 : j - i < l.length
    · rw [if_pos hj2, if_pos (by omega)]
    · rw [if_neg hj2, if_neg (by omega)]; congr 1; omega
theorem patch_cons (x : List UInt8) (i : Nat) (l : List UInt8) (b : UInt8) (h : i + 1 + l.length ≤ x.length) : (patch x (i + 1) l).set i b = patch x i (b :: l) := by
  apply List.ext_getElem?
  intro j
  rw [List.getElem?_set, patch_get _ _ _ h, patch_get _ _ _ (by simp; omega), patch_len _ _ _ h]
  simp only [List.length_cons]
  by_cases hj : i = j
  · subst hj
    rw [if_pos rfl, if_pos (by omega), if_pos (by omega)]; simp
  · rw [if_neg hj]
    by_cases h2 : i + 1 ≤ j ∧ j < i + 1 + l.length
    · rw [if_pos h2, if_pos (by omega)]
      rw [show j - i = (j - (i + 1)) + 1 by omega]; simp
    · rw [if_neg h2, if_neg (by omega)]

/-- k bytes of n, the highest first -/
def be : Nat → Nat → List UInt8
  | 0, _ => []
  | k + 1, n => UInt8.ofNat (n / 256 ^ k) :: be k n
theorem be_len (k n : Nat) : (be k n).length = k := by
  induction k with
  | zero => rfl
  | succ k ih => simp [be, ih]
def beVal (l : List UInt8) : Nat := l.foldl (fun n c => n * 256 + c.toNat) 0

/-- a block that is these bytes -/
def BufAt (w : World) (g : Nat) (x : List UInt8) : Prop := w.heap[g]? = some (.cells (x.map bv).toArray 5 (0, 0))
theorem BufAt.lt {w : World} {g : Nat} {x : List UInt8} (h : BufAt w g x) : g < w.heap.size := lt_of_block h
theorem BufAt.keep {F : Nat → Prop} {w w' : World} {g : Nat} {x : List UInt8} (h : BufAt w g x) (k : Keeps F w w') (hF : ¬ F g) : BufAt w' g x := by
  unfold BufAt; rw [k.block g h.lt hF]; exact h
theorem BufAt.range {w : World} {g : Nat} {x : List UInt8} (h : BufAt w g x) : w.rangeAt g 0 (x.map bv) := fun j u hu => by
  have h : w.heap[g]? = _ := h
  simp [World.cell?, h]; simpa using hu
theorem BufAt.part {w : World} {g : Nat} {x : List UInt8} (h : BufAt w g x) (o n : Nat) : w.rangeAt g o (((x.drop o).take n).map bv) := fun j u hu => by
  rw [List.map_take, List.getElem?_take] at hu
  split at hu
  · rw [List.map_drop, List.getElem?_drop] at hu
    have := h.range (o + j) u hu
    simpa using this
  · cases hu
theorem BufAt.frozen {w : World} {g : Nat} {x : List UInt8} (h : BufAt w g x) (o : Nat) : w.frozen? ⟨g, o, none⟩ = false := by
  have h : w.heap[g]? = _ := h
  simp [World.frozen?, h]
theorem BufAt.there {w : World} {g : Nat} {x : List UInt8} (h : BufAt w g x) (o n : Nat) (hn : o + n ≤ x.length) : w.there g o n :=
  World.blockAt.there (t := 5) (n := x.length) ⟨_, h, by simp⟩ o n hn
theorem BufAt.set {w : World} {g : Nat} {x : List UInt8} (h : BufAt w g x) (i : Nat) (b : UInt8) : BufAt (w.setCell ⟨g, i, none⟩ (bv b)) g (x.set i b) := by
  unfold BufAt
  rw [heap_put h]
  simp
theorem BufAt.sets {g : Nat} : ∀ (l : List UInt8) (o : Nat) (x : List UInt8) (w : World), BufAt w g x → o + l.length ≤ x.length → BufAt (w.setCells g o (l.map bv)) g (patch x o l)
  | [], o, x, w, h, _ => by rw [patch_nil]; exact h
  | b :: l, o, x, w, h, hl => by
    simp only [List.length_cons] at hl
    have h1 := BufAt.sets l (o + 1) (x.set o b) (w.setCell ⟨g, o, none⟩ (bv b)) (h.set o b) (by simp; omega)
    have e : patch (x.set o b) (o + 1) l = patch x o (b :: l) := by
      apply List.ext_getElem?
      intro j
      rw [patch_get _ _ _ (by simp; omega), patch_get _ _ _ (by simp; omega)]
      simp only [List.length_cons]
      by_cases hj : o ≤ j ∧ j < o + (l.length + 1)
      · rw [if_pos hj]
        by_cases hj2 : o = j
        · subst hj2; rw [if_neg (by omega), List.getElem?_set, if_pos rfl, if_pos (by omega)]; simp
        · rw [if_pos (by omega), show j - o = (j - (o + 1)) + 1 by omega]; simp
      · rw [if_neg hj, if_neg (by omega), List.getElem?_set, if_neg (by omega)]
    rw [e] at h1
    exact h1

/-- laid over the bytes of a block -/
def Laid (g o : Nat) (x l : List UInt8) (w w' : World) : Prop := BufAt w' g (patch x o l) ∧ Keeps (fun k => k = g) w w'

theorem BufAt.cell {w : World} {g : Nat} {x : List UInt8} (h : BufAt w g x) (i : Nat) (hi : i < x.length) : w.cell? ⟨g, i, none⟩ = some (bv x[i]) := by
  have := h.range i (bv x[i]) (by simp [hi])
  simpa using this
theorem bv_ofNat (m : Nat) : Value.int .u8 ((m : Int) % 256) = bv (UInt8.ofNat m) := by
  unfold bv; congr 1
theorem Laid.next {g o i k n : Nat} {x : List UInt8} {w wr : World} (h : Laid g (o + (i + 1)) x (be k n) w wr) (ho : o + (i + 1) + k ≤ x.length) : Laid g (o + i) x (be (k + 1) n) w (wr.setCell ⟨g, o + i, none⟩ (.int .u8 (((n / 256 ^ k : Nat) : Int) % 256))) := by
  rw [bv_ofNat]
  refine ⟨?_, h.2.setCell (.inl rfl) _⟩
  have h1 := h.1.set (o + i) (UInt8.ofNat (n / 256 ^ k))
  rw [show o + (i + 1) = o + i + 1 by omega, patch_cons _ _ _ _ (by rw [be_len]; omega)] at h1
  exact h1
theorem Laid.start {g o : Nat} {x : List UInt8} {w : World} (h : BufAt w g x) (n : Nat) : Laid g o x (be 0 n) w w := ⟨by unfold be; rw [patch_nil]; exact h, Keeps.refl _ _⟩

theorem beVal_foldl (l : List UInt8) : ∀ n : Nat, l.foldl (fun n c => n * 256 + c.toNat) n = n * 256 ^ l.length + beVal l := by
  unfold beVal
  induction l with
  | nil => intro n; simp
  | cons c l ih =>
    intro n
    rw [List.foldl_cons, List.foldl_cons, ih, ih (0 * 256 + c.toNat), List.length_cons, Nat.pow_succ]
    rw [Nat.add_mul, Nat.zero_mul, Nat.zero_add, Nat.mul_assoc, Nat.mul_comm 256]; omega
theorem beVal_cons (c : UInt8) (l : List UInt8) : beVal (c :: l) = c.toNat * 256 ^ l.length + beVal l := by
  show l.foldl (fun n c => n * 256 + c.toNat) (0 * 256 + c.toNat) = _
  rw [beVal_foldl]; simp
theorem beVal_snoc (l : List UInt8) (c : UInt8) : beVal (l ++ [c]) = beVal l * 256 + c.toNat := by unfold beVal; rw [List.foldl_append]; rfl
theorem beVal_lt (l : List UInt8) : beVal l < 256 ^ l.length := by
  induction l with
  | nil => simp [beVal]
  | cons c l ih =>
    rw [beVal_cons, List.length_cons, Nat.pow_succ]
    have := c.toNat_lt
    have h2 : c.toNat * 256 ^ l.length ≤ 255 * 256 ^ l.length := Nat.mul_le_mul_right _ (by omega)
    omega
theorem beVal_be (k n : Nat) : beVal (be k n) = n % 256 ^ k := by
  induction k with
  | zero => simp [be, beVal, Nat.mod_one]
  | succ k ih =>
    rw [be, beVal_cons, be_len, ih]
    have e : (UInt8.ofNat (n / 256 ^ k)).toNat = n / 256 ^ k % 256 := by simp
    rw [e, Nat.pow_succ, Nat.mod_mul, Nat.mul_comm]; omega
theorem be_beVal (l : List UInt8) : be l.length (beVal l) = l := by
  suffices h : ∀ (l : List UInt8) (m : Nat), be l.length (m * 256 ^ l.length + beVal l) = l by simpa using h l 0
  intro l
  induction l with
  | nil => intro m; rfl
  | cons c l ih =>
    intro m
    have hb := beVal_lt l
    have hp : 0 < 256 ^ l.length := Nat.pow_pos (by omega)
    rw [List.length_cons, be, beVal_cons]
    have e1 : m * 256 ^ (l.length + 1) + (c.toNat * 256 ^ l.length + beVal l) = (m * 256 + c.toNat) * 256 ^ l.length + beVal l := by
      rw [Nat.pow_succ, Nat.add_mul, Nat.mul_assoc, Nat.mul_comm (256 ^ l.length)]; omega
    rw [e1, ih (m * 256 + c.toNat)]
    have e2 : ((m * 256 + c.toNat) * 256 ^ l.length + beVal l) / 256 ^ l.length = m * 256 + c.toNat := by
      rw [Nat.add_comm, Nat.add_mul_div_right _ _ hp, Nat.div_eq_of_lt hb]; omega
    rw [e2]
    congr 1
    apply UInt8.toNat_inj.mp
    have := c.toNat_lt
    simp
theorem or_low (m : Nat) (c : UInt8) : (m * 256) ||| c.toNat = m * 256 + c.toNat := by
  have h := Nat.two_pow_add_eq_or_of_lt (i := 8) (b := c.toNat) c.toNat_lt m
  rw [show (2 : Nat) ^ 8 * m = m * 256 by omega] at h
  exact h.symm

def noughts (n : Nat) : List UInt8 := List.replicate n 0
theorem noughts_len (n : Nat) : (noughts n).length = n := by unfold noughts; simp

/-- a new block with these bytes -/
def NewBuf (x : List UInt8) (w : World) (e : Ending) (w' : World) : Prop := ∃ g, e = .returned (.slice (some ⟨g, 0, none⟩) x.length x.length) ∧ w.heap.size ≤ g ∧ BufAt w' g x ∧ Keeps (fun _ => False) w w'

/-- make([]byte, n) -/
theorem made_noughts {w w1 : World} {n : Nat} (ho : w1.ownsRow 0 5 1 (.slice (some ⟨w.heap.size, 0, none⟩) n n) n (madeCells (Value.int .u8 0).cells (n * 1)).toList) : BufAt w1 w.heap.size (noughts n) := by
  rcases ho.2 with ⟨h, _⟩ | ⟨g, cap, cur, he, _, hg, _, _, hcs, ht⟩
  · cases h
  · injection he with h1 h2 h3
    injection h1 with h1
    injection h1 with h1
    subst h1; subst h3
    unfold BufAt
    rw [hg]
    have e : cur.toList = (noughts n).map bv := by
      have hm : (madeCells (Value.int .u8 0).cells (n * 1)).toList = (noughts n).map bv := by
        rw [Nat.mul_one]; unfold noughts; rw [List.map_replicate]; exact toList_madeCells_one (.int .u8 0) n
      rw [hm] at ht
      rw [← ht, List.take_of_length_le]
      rw [Array.length_toList, hcs]; omega
    rw [← e]
theorem made_noughts1 {w w1 : World} {ob : Obj} {n : Nat} (ho : w1.ownsRow 0 5 1 (.slice (some ⟨(w.alloc ob).heap.size, 0, none⟩) n n) n (madeCells (Value.int .u8 0).cells (n * 1)).toList) : BufAt w1 (w.heap.size + 1) (noughts n) := by
  have e : (w.alloc ob).heap.size = w.heap.size + 1 := by simp
  rw [← e]; exact made_noughts ho
theorem run_copy_str {P : Program} (w : World) (dT sT ty elem : TypeId) (b o dLen dCap : Nat) (s : ByteArray) (l : List UInt8)
    (hu : P.underlying dT = some (.slice elem)) (hs : (P.info? elem).map (·.size) = some 1) (hl : s.data.toList = l) (hd : l.length ≤ dLen) (hth : w.there b o l.length) :
    (Builtin.copy_ #[dT, sT] ty #[.slice (some ⟨b, o, none⟩) dLen dCap, .string s]).run P w = .ok (goInt l.length) (w.setCells b o (l.map bv)) := by
  have hst := run_storeCells_cells (P := P) b o (l.map bv) 0 w (fun j hj => by simpa using (hth j (by simpa using hj)).1) (fun j hj => by simpa using (hth j (by simpa using hj)).2) (bv_one l)
  have hsz : s.size = l.length := by rw [← hl]; rfl
  have hmin : s.size.min dLen = l.length := by rw [hsz]; exact Nat.min_eq_left hd
  have hcs : List.take l.length (List.map (fun b : UInt8 => Value.int .u8 b.toNat) s.data.toList) = l.map bv := by rw [hl, List.take_of_length_le (by simp)]; rfl
  cases hq : P.info? elem with
  | none => simp [hq] at hs
  | some i =>
    have hst' : Sem.run P (storeCells { block := b, off := o } (l.map bv)) w = .ok () (w.setCells b o (l.map bv)) := by simpa using hst
    simp [Builtin.copy_, run_underlying hu, Builtin.lenOf, Builtin.firstCells, sizeOf, typeInfo, hq, hmin, hcs, hst']

/-- copies into a block of bytes, the world behind under a name -/
theorem wpList_copy_str {P : Program} {w : World} {ops : Array Oper} {rest : List Oper} {o : Oper} {a : Act} {Q : Exit → Act → World → Prop} (hgd : o.guard = none) (d s : Operand) (dT sT : TypeId)
    (ho : o.op = .call { callee := .builtin .copy, args := #[d, s], argTypes := #[dT, sT] }) (elem : TypeId) (hu : P.underlying dT = some (.slice elem)) (hsz : (P.info? elem).map (·.size) = some 1)
    (g off dLen dCap : Nat) (st : ByteArray) (hd : a.eval d = .slice (some ⟨g, off, none⟩) dLen dCap) (hs : a.eval s = .string st) (x l : List UInt8) (hl : st.data.toList = l) (hdl : l.length ≤ dLen)
    (hb : BufAt w g x) (hx : off + l.length ≤ x.length)
    (h : ∀ w1, Hid (Laid g off x l w w1) → wpList P ops Q rest (a.put o.dst (goInt l.length)) w1) : wpList P ops Q (o :: rest) a w := by
  refine wpList_plain hgd fun K hK => ?_
  have hrun := run_copy_str (P := P) w dT sT o.type elem g off dLen dCap st l hu hsz hl hdl (hb.there off _ hx)
  have h' := h _ (Lib.hid ⟨hb.sets l off x w hx, Keeps.setCells (F := fun k => k = g) (.inl rfl) _ _ _ (Keeps.refl _ _)⟩)
  unfold Oper.wp
  simp [execOp, ho, resolve, invoke, builtin, hd, hs, hrun, Result.andThen]
  exact hK _ _ h'
theorem wpList_copy_buf {P : Program} {w : World} {ops : Array Oper} {rest : List Oper} {o : Oper} {a : Act} {Q : Exit → Act → World → Prop} (hgd : o.guard = none) (d s : Operand) (dT sT : TypeId)
    (ho : o.op = .call { callee := .builtin .copy, args := #[d, s], argTypes := #[dT, sT] }) (elem : TypeId) (hu : P.underlying dT = some (.slice elem)) (hsz : (P.info? elem).map (·.size) = some 1)
    (g off dLen dCap : Nat) (sb so sLen sCap : Nat) (hd : a.eval d = .slice (some ⟨g, off, none⟩) dLen dCap) (hs : a.eval s = .slice (some ⟨sb, so, none⟩) sLen sCap) (x l : List UInt8) (hl : l.length = sLen) (hdl : sLen ≤ dLen)
    (hb : BufAt w g x) (hx : off + l.length ≤ x.length) (hsrc : w.rangeAt sb so (l.map bv))
    (h : ∀ w1, Hid (Laid g off x l w w1) → wpList P ops Q rest (a.put o.dst (goInt l.length)) w1) : wpList P ops Q (o :: rest) a w := by
  have e : (l.map bv).length = l.length := by simp
  refine wpList_copy_cells hgd d s dT sT ho elem hu hsz g off dLen dCap ⟨sb, so, none⟩ sLen sCap hd hs (l.map bv) (by rw [e, hl]; exact (Nat.min_eq_left hdl).symm) (fun j v hv => by rw [Addr.add_mid]; exact hsrc j v hv) (by rw [e]; exact hb.there off _ hx) (bv_one l) ?_
  rw [e]
  exact h _ (Lib.hid ⟨hb.sets l off x w hx, Keeps.setCells (F := fun k => k = g) (.inl rfl) _ _ _ (Keeps.refl _ _)⟩)

theorem patch_one (x : List UInt8) (i : Nat) (b : UInt8) (h : i < x.length) : patch x i [b] = x.set i b := by
  rw [← patch_cons x i [] b (by simp; omega), patch_nil]
theorem BufAt.bytes {w : World} {g : Nat} {x : List UInt8} (h : BufAt w g x) (o n c : Nat) (hn : n = ((x.drop o).take n).length) (hc : n ≤ c) : BytesAt w (.slice (some ⟨g, o, none⟩) n c) ((x.drop o).take n) :=
  ⟨some ⟨g, o, none⟩, c, by rw [← hn], (fun h => nomatch h), by omega, fun _ => ⟨g, o, rfl, h.part o n⟩⟩

theorem Laid.other {g o : Nat} {x l : List UInt8} {w w' : World} (h : Laid g o x l w w') {b i : Nat} {v : Value} (hc : w.cell? ⟨b, i, none⟩ = some v) (hb : b ≠ g) : w'.cell? ⟨b, i, none⟩ = some v := by
  rw [h.2.cell (p := ⟨b, i, none⟩) (World.block_lt_of_cell? w _ hc) hb]; exact hc
theorem param2 {w w1 : World} {a b : Value} {t : TypeId} (k : Keeps (fun _ => False) (w.alloc (.cells #[a, b] t)) w1) : w1.cell? ⟨w.heap.size, 0, none⟩ = some a ∧ w1.cell? ⟨w.heap.size, 1, none⟩ = some b := by
  have hb := heap_alloc_last w (.cells #[a, b] t)
  have h0 : (w.alloc (.cells #[a, b] t)).cell? ⟨w.heap.size, 0, none⟩ = some a := by unfold World.cell?; simp only [hb]; rfl
  have h1 : (w.alloc (.cells #[a, b] t)).cell? ⟨w.heap.size, 1, none⟩ = some b := by unfold World.cell?; simp only [hb]; rfl
  exact ⟨by rw [k.cell (p := ⟨w.heap.size, 0, none⟩) (World.block_lt_of_cell? _ _ h0) id]; exact h0, by rw [k.cell (p := ⟨w.heap.size, 1, none⟩) (World.block_lt_of_cell? _ _ h1) id]; exact h1⟩
def PC (b : Nat) (v : Value) (W : World) : Prop := W.cell? ⟨b, 0, none⟩ = some v
theorem PC.cell {b : Nat} {v : Value} : ∀ W : World, PC b v W → W.cell? ⟨b, 0, none⟩ = some v := fun _ h => h
theorem ne_succ (n : Nat) : n ≠ n + 1 := by omega

theorem Laid.one {w : World} {g : Nat} {x : List UInt8} (h : BufAt w g x) (i : Nat) (b : UInt8) (hi : i < x.length) : Laid g i x [b] w (w.setCell ⟨g, i, none⟩ (bv b)) :=
  ⟨by rw [patch_one _ _ _ hi]; exact h.set i b, (Keeps.refl (fun k => k = g) w).setCell (.inl rfl) _⟩
/-- what was laid into a new block -/
theorem Keeps.laid {a w w' : World} {g o : Nat} {x l : List UInt8} (k : Keeps (fun _ => False) a w) (h : Laid g o x l w w') (hg : a.heap.size ≤ g) : Keeps (fun _ => False) a w' := k.trans' h.2 (fun i e => .inr (by rw [e]; exact hg))

/-- string(b), as the walk meets it -/
theorem conv_str (g o c : Nat) (l : List UInt8) (W : World) (h : W.rangeAt g o (l.map bv)) : (convert 71 9 (.slice (some ⟨g, o, none⟩) l.length c)).run Try.prog W = .ok (.string ⟨l.toArray⟩) W :=
  run_convert_bytes_back W 71 9 5 ⟨g, o, none⟩ c l Try.underlying71 Try.underlying5 Try.underlying9 (fun j hj => by
    rw [Addr.add_mid]; have := h j (.int .u8 (l[j].toNat)) (by simp [hj, bv]); exact this)
theorem conv_nil (W : World) : (convert 71 9 (.slice none 0 0)).run Try.prog W = .ok (.string ⟨#[]⟩) W := by
  rw [run_convert_bytes_string W 71 9 5 none 0 0 Try.underlying71 Try.underlying5 Try.underlying9]; rfl
theorem conv_bytes {W : World} {v : Value} {x : List UInt8} (h : BytesAt W v x) (h0 : 0 < x.length) : (convert 71 9 v).run Try.prog W = .ok (.string ⟨x.toArray⟩) W := by
  obtain ⟨p, c, rfl, -, -, h⟩ := h
  obtain ⟨g, o, rfl, hr⟩ := h h0
  exact conv_str g o c _ W hr

theorem eql_nil (a : Addr) (l c : Nat) (w : World) : (binOp .eql 71 (.slice (some a) l c) (.slice none 0 0)).run Try.prog w = .ok (.bool false) w := by
  simp [binOp, run_equal_slice_nil w 71 _ (some a) l c Try.underlying71]
/-- new bytes, wherever they lie -/
def NewBytes (x : List UInt8) (w : World) (e : Ending) (w' : World) : Prop := ∃ v, e = .returned v ∧ BytesAt w' v x ∧ (∀ k, v.ownBlock = some k → w.heap.size ≤ k) ∧ Keeps (fun _ => False) w w'
theorem owns_empty (w : World) : (w.alloc (.cells #[] 5)).ownsRow 0 5 1 (.slice (some ⟨w.heap.size, 0, none⟩) 0 0) 0 [] :=
  ⟨rfl, .inr ⟨w.heap.size, 0, #[], rfl, Nat.zero_le _, heap_alloc_last w _, Nat.le_refl _, Nat.zero_le _, rfl, rfl⟩⟩
theorem owns_bytes {w : World} {p : Option Addr} {n c : Nat} {x : List UInt8} (h : w.ownsRow 0 5 1 (.slice p n c) n (x.map bv)) : BytesAt w (.slice p n c) x := by
  have hl : x.length = n := by have := h.1; simpa using this
  subst hl
  rcases h.2 with ⟨e, h2⟩ | ⟨g, cap, cur, he, _, _, hle, _⟩
  · injection e with e1 e2 e3; subst e1; subst e3
    exact ⟨none, 0, rfl, fun _ => rfl, by omega, fun h0 => by omega⟩
  · injection he with e1 e2 e3
    subst e1; subst e3
    refine ⟨_, _, rfl, fun h => (by cases h), hle, fun h0 => ⟨g, 0, rfl, fun j u hu => ?_⟩⟩
    have := h.cells (g := g) rfl j u hu
    rw [Addr.add_mid] at this
    exact this

/-- bytes of the call's own: no older block is part of them -/
def OwnB (w0 w : World) (v : Value) (xs : List UInt8) : Prop :=
  w.ownsRow 0 5 1 v xs.length (xs.map bv) ∧ (∀ k, v.ownBlock = some k → w0.heap.size ≤ k) ∧ w0.heap.size ≤ w.heap.size
theorem OwnB.nil (w0 w : World) (h : w0.heap.size ≤ w.heap.size) : OwnB w0 w (.slice none 0 0) [] := ⟨⟨rfl, .inl ⟨rfl, rfl⟩⟩, by simp [Value.ownBlock], h⟩
theorem OwnB.slice {w0 w : World} {v : Value} {xs : List UInt8} (h : OwnB w0 w v xs) : ∃ p c, v = .slice p xs.length c := ownsRow_slice h.1
theorem OwnB.bytes {w0 w : World} {v : Value} {xs : List UInt8} (h : OwnB w0 w v xs) : BytesAt w v xs := by
  obtain ⟨p, c, rfl⟩ := h.slice
  exact owns_bytes h.1
theorem OwnB.keep {F : Nat → Prop} {w0 w w' : World} {v : Value} {xs : List UInt8} (h : OwnB w0 w v xs) (k : Keeps F w w') (hF : ∀ i, v.ownBlock = some i → ¬ F i) : OwnB w0 w' v xs :=
  ⟨k.ownsRow h.1 hF, h.2.1, Nat.le_trans h.2.2 k.size⟩
theorem OwnB.older {w0 w1 w : World} {v : Value} {xs : List UInt8} (h : OwnB w1 w v xs) (hs : w0.heap.size ≤ w1.heap.size) : OwnB w0 w v xs := ⟨h.1, fun k e => Nat.le_trans hs (h.2.1 k e), Nat.le_trans hs h.2.2⟩
theorem OwnB.empty (w0 w : World) (h : w0.heap.size ≤ w.heap.size) : OwnB w0 (w.alloc (.cells #[] 5)) (.slice (some ⟨w.heap.size, 0, none⟩) 0 0) [] :=
  ⟨owns_empty w, fun k e => by simp only [Value.ownBlock, Option.some.injEq] at e; omega, by simp; omega⟩
/-- a new block of bytes -/
theorem OwnB.new (w0 w : World) (h : w0.heap.size ≤ w.heap.size) (l : List UInt8) {n : Nat} (hn : l.length = n) (hm : n ≤ maxLen) : OwnB w0 (w.alloc (.cells (l.map bv).toArray 5)) (.slice (some ⟨w.heap.size, 0, none⟩) n n) l := by
  subst hn
  refine ⟨⟨by simp, .inr ⟨w.heap.size, l.length, (l.map bv).toArray, rfl, Nat.zero_le _, heap_alloc_last w _, Nat.le_refl _, hm, by simp, ?_⟩⟩, fun k e => by simp only [Value.ownBlock, Option.some.injEq] at e; omega, by simp; omega⟩
  rw [List.take_of_length_le (by simp)]
/-- what an append makes -/
structure Grown (w : World) (v : Value) (p : Option Addr) (n c : Nat) (w' : World) : Prop where
  k : Keeps (fun k => v.ownBlock = some k) w w'
  s : ∀ k, (Value.slice p n c).ownBlock = some k → v.ownBlock = some k ∨ w.heap.size ≤ k
/-- bytes of whatever source behind bytes of the call's own -/
theorem wpList_append_b {P : Program} {w : World} {ops : Array Oper} {rest : List Oper} {o : Oper} {a : Act} {Q : Exit → Act → World → Prop} (hgd : o.guard = none) (s x : Operand) (t : TypeId)
    (ho : o.op = .call { callee := .builtin .append, args := #[s, x], argTypes := #[t, t] })
    (i : TypeInfo) (ht : P.underlying t = some (.slice 5)) (hi : P.info? 5 = some i) (hz : i.zero = some (.int .u8 0)) (hsize : i.size = 1) (hby : i.bytes = 1)
    (w0 : World) (v : Value) (xs : List UInt8) (hs : a.eval s = v) (hown : OwnB w0 w v xs) (sv : Value) (hx : a.eval x = sv) (l : List UInt8) (hl : BytesAt w sv l) (hsz : xs.length + l.length ≤ 70368744177664)
    (h : ∀ p c w', Hid (OwnB w0 w' (.slice p (xs.length + l.length) c) (xs ++ l)) → Hid (Grown w v p (xs.length + l.length) c w') → wpList P ops Q rest (a.put o.dst (.slice p (xs.length + l.length) c)) w') : wpList P ops Q (o :: rest) a w := by
  obtain ⟨sp, sc, rfl, hp, -, hlr⟩ := hl
  cases sp with
  | none =>
    have h0 : l.length = 0 := by
      rcases Nat.eq_zero_or_pos l.length with h | h
      · exact h
      · obtain ⟨b, o, e, _⟩ := hlr h; cases e
    have hc := hp rfl
    subst hc
    have hl0 : l = [] := List.length_eq_zero_iff.1 h0
    subst hl0
    obtain ⟨p, c, rfl⟩ := hown.slice
    refine wpList_append_own_none hgd s x t ho 0 5 i 1 ht hi _ xs.length (xs.map bv) hs hown.1 hx ?_
    exact h p c w (Lib.hid (by simpa using hown)) (Lib.hid ⟨Keeps.refl _ _, fun k e => .inl e⟩)
  | some ad =>
    refine wpList_append_sep hgd s x t ho 5 i (.int .u8 0) 1 1 ht hi hz hsize hby rfl (by decide) v xs.length (xs.map bv) hs hown.1 ad l.length sc (l.map bv) hx (by simp) (fun j u hu => ?_) (bv_one l) (by unfold maxLen; omega) (by omega) ?_
    · have h0 : 0 < l.length := by
        have := (List.getElem?_eq_some_iff.1 hu).1; simp at this; omega
      obtain ⟨b, o, e, hr⟩ := hlr h0
      injection e with e; subst e
      rw [Addr.add_mid]; exact hr j u hu
    · intro p c w' h1 h2 h3
      refine h p c w' (Lib.hid ⟨by simpa using h1, fun k e => ?_, Nat.le_trans hown.2.2 h2.size⟩) (Lib.hid ⟨(Keeps.refl _ _).grown h2 (fun k e => .inl e), h3.out⟩)
      rcases h3.out k e with e | e
      · exact hown.2.1 k e
      · exact Nat.le_trans hown.2.2 e
end Go.Proofs.Ytdaongflpllfhaa
