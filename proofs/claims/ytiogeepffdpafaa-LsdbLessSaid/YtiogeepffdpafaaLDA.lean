/- A map by keys of Lsas, in memory: look-ups. -/
import Derived.Test.YtiogeepffdpafaaLW
import Derived.Laws.StructEq
namespace Go.Proofs.Ytiogeepffdpafaa
open Go.RowKit

def keyA (t : Int) (i a : Nat) : Value := .agg #[.int .i64 t, .int .u32 i, .int .u32 a]
def hasKey (m : LsaD) (t : Int) (i a : Nat) : Bool := decide (m.type = t) && (decide (m.id = i) && decide (m.adv = a))
theorem equal_key (t t' : Int) (i i' a a' : Nat) (w : World) : (Op.equal 33 (keyA t i a) (keyA t' i' a')).run Try.prog w = .ok (decide (t' = t) && (decide (i' = i) && decide (a' = a))) w := by
  unfold keyA Op.equal
  by_cases h1 : t' = t
  · by_cases h2 : i' = i
    · by_cases h3 : a' = a
      · subst h1; subst h2; subst h3
        simp [go_sem, Op.maxDepth]
      · have h4 : ¬ (a : Int) = (a' : Int) := by omega
        simp [go_sem, Op.maxDepth, h1, h2, h3, h4]
    · have h4 : ¬ (i : Int) = (i' : Int) := by omega
      simp [go_sem, Op.maxDepth, h1, h2, h4]
  · have h4 : ¬ t = t' := fun e => h1 e.symm
    simp [go_sem, Op.maxDepth, h1, h4]
/-- the entries of a map, one for each Lsa -/
def EntriesAt (R : Value → LsaD → Prop) (es : List MapEntry) (L : List LsaD) : Prop :=
  match es, L with
  | [], [] => True
  | e :: es, m :: L => e.key = keyA m.type m.id m.adv ∧ R e.val m ∧ EntriesAt R es L
  | _, _ => False
theorem EntriesAt.len {R : Value → LsaD → Prop} : ∀ {es : List MapEntry} {L : List LsaD}, EntriesAt R es L → es.length = L.length
  | [], [], _ => rfl
  | e :: es, m :: L, h => by rw [List.length_cons, List.length_cons, EntriesAt.len h.2.2]
  | [], _ :: _, h => h.elim
  | _ :: _, [], h => h.elim
def posK (L : List LsaD) (t : Int) (i a : Nat) : Option Nat := match L with
  | [] => none
  | m :: L => if hasKey m t i a then some 0 else (posK L t i a).map (· + 1)
theorem posK_lt {L : List LsaD} {t : Int} {i a j : Nat} (h : posK L t i a = some j) : ∃ m, L[j]? = some m ∧ hasKey m t i a = true := by
  induction L generalizing j with
  | nil => cases h
  | cons m L ih =>
    unfold posK at h
    split at h
    · injection h with h; subst h; exact ⟨m, rfl, by assumption⟩
    · cases hp : posK L t i a with
      | none => rw [hp] at h; cases h
      | some k =>
        rw [hp] at h; injection h with h; subst h
        obtain ⟨m', h1, h2⟩ := ih hp
        exact ⟨m', by simpa using h1, h2⟩
theorem EntriesAt.get {R : Value → LsaD → Prop} : ∀ {es : List MapEntry} {L : List LsaD}, EntriesAt R es L → ∀ {j : Nat} {m : LsaD}, L[j]? = some m → ∃ e, es[j]? = some e ∧ e.key = keyA m.type m.id m.adv ∧ R e.val m
  | [], [], _, j, m, h => by simp at h
  | e :: es, m' :: L, hE, 0, m, h => by injection h with h; subst h; exact ⟨e, rfl, hE.1, hE.2.1⟩
  | e :: es, m' :: L, hE, j + 1, m, h => EntriesAt.get hE.2.2 (by simpa using h)
  | [], _ :: _, h, _, _, _ => h.elim
  | _ :: _, [], h, _, _, _ => h.elim
theorem findAsking_key {R : Value → LsaD → Prop} (t : Int) (i a : Nat) : ∀ (es : List MapEntry) (L : List LsaD), EntriesAt R es L → ∀ (n : Nat) (W : World), (Instr.findAsking 33 (keyA t i a) es n).run Try.prog W = .ok ((posK L t i a).bind fun j => (es[j]?).map fun e => (n + j, e.val)) W
  | [], [], _, n, W => by simp [Instr.findAsking, posK]
  | e :: es, m :: L, hE, n, W => by
    unfold Instr.findAsking posK
    rw [hE.1]
    simp only [Sem.run_bind, equal_key, Result.andThen_ok]
    rw [show (decide (m.type = t) && (decide (m.id = i) && decide (m.adv = a))) = hasKey m t i a from rfl]
    cases hk : hasKey m t i a with
    | true => simp
    | false =>
      simp only [Bool.false_eq_true, if_false]
      rw [findAsking_key t i a es L hE.2.2 (n + 1) W]
      cases posK L t i a with
      | none => rfl
      | some j => simp [Nat.add_comm, Nat.add_left_comm]
  | [], _ :: _, h, _, _ => h.elim
  | _ :: _, [], h, _, _ => h.elim
theorem findKey_key {R : Value → LsaD → Prop} (t : Int) (i a : Nat) (es : List MapEntry) (L : List LsaD) (h : EntriesAt R es L) (W : World) : (Instr.findKey 33 (keyA t i a) es).run Try.prog W = .ok ((posK L t i a).bind fun j => (es[j]?).map fun e => (j, e.val)) W := by
  unfold Instr.findKey
  simp only [Sem.run_bind, run_underlying Try.underlying33, Result.andThen_ok]
  cases es with
  | nil =>
    cases L with
    | nil => simp [Instr.findNow, posK]
    | cons m L => exact h.elim
  | cons e es =>
    unfold keyA
    simp only [Instr.findNow, Instr.sameNow]
    have := findAsking_key t i a (e :: es) L h 0 W
    unfold keyA at this
    simpa using this
theorem checkKey_key (emp : Bool) (t : Int) (i a : Nat) (n : Nat) (W : World) : (Instr.checkKey emp (n + 2) 33 (keyA t i a)).run Try.prog W = .ok () W := by
  unfold keyA
  rw [Instr.checkKey]
  simp only [Sem.run_bind, run_underlying Try.underlying33, Result.andThen_ok]
  have h1 : ∀ (x : Int) (W : World), (Instr.checkKey emp (n + 1) 3 (.int .i64 x)).run Try.prog W = .ok () W := fun x W => by rw [Instr.checkKey]; simp only [Sem.run_bind, run_underlying Try.underlying3, Result.andThen_ok]; rfl
  have h2 : ∀ (x : Int) (W : World), (Instr.checkKey emp (n + 1) 22 (.int .u32 x)).run Try.prog W = .ok () W := fun x W => by rw [Instr.checkKey]; simp only [Sem.run_bind, run_underlying Try.underlying22, Result.andThen_ok]; rfl
  simp [go_sem, h1, h2]
def zeroLsa : Value := .agg #[.int .i64 0, .int .i64 0, .int .u32 0, .int .u32 0, .int .i64 0, .slice none 0 0, .int .u32 0, .slice none 0 0, .int .i64 0]
theorem run_lookup_key {R : Value → LsaD → Prop} {w : World} (r : Nat) (es : Array MapEntry) (clock : Nat) (L : List LsaD) (hr : w.heap[r]? = some (.map es clock)) (h : EntriesAt R es.toList L) (t : Int) (i a : Nat) :
    (Instr.lookup 148 (.map (some r)) (keyA t i a) true).run Try.prog w = .ok (match (posK L t i a).bind fun j => es[j]? with | some e => .tuple #[e.val, .bool true] | none => .tuple #[zeroLsa, .bool false]) w := by
  have hg : (getObj r).run Try.prog w = .ok (.map es clock) w := by simp [getObj, Sem.run, hr]
  unfold Instr.lookup
  simp only [Sem.run_bind, run_underlying Try.underlying148, Result.andThen_ok, hg, Sem.run_pure]
  rw [show (10000 : Nat) = 9998 + 2 from rfl]
  simp only [checkKey_key, Result.andThen_ok, findKey_key t i a _ L h]
  cases hp : posK L t i a with
  | none => simp [go_sem, zeroLsa]
  | some j =>
    obtain ⟨m, hm, -⟩ := posK_lt hp
    obtain ⟨e, he, -⟩ := h.get hm
    have he2 : es[j]? = some e := by simpa using he
    simp [he2]
/-- a map's block, turned -/
def mapPut (w : World) (r : Nat) (o : Obj) : World := { w with heap := w.heap.setIfInBounds r o }
theorem mapPut_keeps (w : World) (r : Nat) (o : Obj) : Keeps (fun k => k = r) w (mapPut w r o) :=
  ⟨rfl, rfl, rfl, by simp [mapPut], fun k hk hn => by simp [mapPut, Array.getElem?_setIfInBounds, Ne.symm hn]⟩
theorem mapPut_at (w : World) (r : Nat) (o : Obj) (h : r < w.heap.size) : (mapPut w r o).heap[r]? = some o := by simp [mapPut, h]
theorem sameBits_key (t : Int) (i a : Nat) : Instr.sameBits 10000 (keyA t i a) (keyA t i a) = true := by
  unfold keyA
  rw [show (10000 : Nat) = 9999 + 1 from rfl, Instr.sameBits]
  simp [Instr.sameBits]
theorem hasKey_key {m : LsaD} {t : Int} {i a : Nat} (h : hasKey m t i a = true) : keyA m.type m.id m.adv = keyA t i a := by
  unfold hasKey at h
  simp only [Bool.and_eq_true, decide_eq_true_eq] at h
  rw [h.1, h.2.1, h.2.2]
theorem run_mapUpdate_there {R : Value → LsaD → Prop} {w : World} (r : Nat) (es : Array MapEntry) (clock : Nat) (L : List LsaD) (hr : w.heap[r]? = some (.map es clock)) (h : EntriesAt R es.toList L) (t : Int) (i a : Nat) (v : Value) (j : Nat) (hj : posK L t i a = some j) :
    (Instr.mapUpdate 148 (.map (some r)) (keyA t i a) v).run Try.prog w = .ok () (mapPut w r (.map (es.modify j fun e => { e with key := keyA t i a, val := v }) clock)) := by
  have hg : (getObj r).run Try.prog w = .ok (.map es clock) w := by simp [getObj, Sem.run, hr]
  have hs : ∀ o, (setObj r o).run Try.prog w = .ok () (mapPut w r o) := fun o => by simp [setObj, Sem.run, hr, mapPut]
  obtain ⟨m, hm, hk⟩ := posK_lt hj
  obtain ⟨e, he, hek, -⟩ := h.get hm
  have he2 : es[j]? = some e := by simpa using he
  unfold Instr.mapUpdate
  simp only [Sem.run_bind, run_underlying Try.underlying148, Result.andThen_ok, hg, Sem.run_pure]
  rw [show (10000 : Nat) = 9998 + 2 from rfl]
  simp only [checkKey_key, Result.andThen_ok, findKey_key t i a _ L h, hj]
  have hst : (Instr.keyThatStays e.key (keyA t i a)).run Try.prog w = .ok (keyA t i a) w := by
    rw [hek, hasKey_key hk]
    unfold Instr.keyThatStays
    rw [sameBits_key]; simp
  simp [he2, hst, hs]
theorem run_mapUpdate_new {R : Value → LsaD → Prop} {w : World} (r : Nat) (es : Array MapEntry) (clock : Nat) (L : List LsaD) (hr : w.heap[r]? = some (.map es clock)) (h : EntriesAt R es.toList L) (t : Int) (i a : Nat) (v : Value) (hj : posK L t i a = none) :
    (Instr.mapUpdate 148 (.map (some r)) (keyA t i a) v).run Try.prog w = .ok () (mapPut w r (.map (es.push { key := keyA t i a, val := v, born := clock }) (clock + 1))) := by
  have hg : (getObj r).run Try.prog w = .ok (.map es clock) w := by simp [getObj, Sem.run, hr]
  have hs : ∀ o, (setObj r o).run Try.prog w = .ok () (mapPut w r o) := fun o => by simp [setObj, Sem.run, hr, mapPut]
  unfold Instr.mapUpdate
  simp only [Sem.run_bind, run_underlying Try.underlying148, Result.andThen_ok, hg, Sem.run_pure]
  rw [show (10000 : Nat) = 9998 + 2 from rfl]
  simp only [checkKey_key, Result.andThen_ok, findKey_key t i a _ L h, hj]
  simp [hs]
end Go.Proofs.Ytiogeepffdpafaa
