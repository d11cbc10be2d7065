/- A map of texts to true, in memory. -/
import Derived.Test.YtialookpnoaogaaGreatAA14
import Derived.Test.YtialookpnoaogaaGreatAA09
import Derived.Test.YtialookpnoaogaaGreatAA07
import Derived.Deep.DeepCutAuto
import Derived.MapKept
import Derived.Carry
import Derived.Shelf.Strings.Builder1
set_option linter.unusedVariables false
set_option linter.unusedSimpArgs false
set_option linter.unusedVariables false
set_option linter.unusedSimpArgs false
namespace Go.Proofs.YtialookpnoaogaaGreat
open Go.RowKit

/-- the entries of a set of texts -/
def EntU : List MapEntry → List (List UInt8) → Prop
  | [], [] => True
  | e :: es, u :: U => e.key = strv u ∧ e.val = .bool true ∧ EntU es U
  | _, _ => False
theorem EntU.len : ∀ {es : List MapEntry} {U : List (List UInt8)}, EntU es U → es.length = U.length
  | [], [], _ => rfl
  | e :: es, u :: U, h => by rw [List.length_cons, List.length_cons, EntU.len h.2.2]
  | [], _ :: _, h => h.elim
  | _ :: _, [], h => h.elim
theorem EntU.push : ∀ {es : List MapEntry} {U : List (List UInt8)} (_ : EntU es U) (e : MapEntry) (u : List UInt8), e.key = strv u → e.val = .bool true → EntU (es ++ [e]) (U ++ [u])
  | [], [], _, e, u, h1, h2 => ⟨h1, h2, trivial⟩
  | _ :: _, _ :: _, h, e, u, h1, h2 => ⟨h.1, h.2.1, EntU.push h.2.2 e u h1 h2⟩
  | [], _ :: _, h, _, _, _, _ => h.elim
  | _ :: _, [], h, _, _, _, _ => h.elim
theorem EntU.modify : ∀ {es : List MapEntry} {U : List (List UInt8)} (_ : EntU es U) (j : Nat) (f : MapEntry → MapEntry) (u : List UInt8), U[j]? = some u → (∀ e, (f e).key = strv u ∧ (f e).val = .bool true) → EntU (es.modify j f) U
  | [], [], h, j, f, u, hu, hf => by simp at hu
  | e :: es, o :: U, h, 0, f, u, hu, hf => ⟨by simp at hu; subst hu; exact (hf e).1, (hf e).2, h.2.2⟩
  | e :: es, o :: U, h, j + 1, f, u, hu, hf => ⟨h.1, h.2.1, EntU.modify h.2.2 j f u (by simpa using hu) hf⟩
  | [], _ :: _, h, _, _, _, _, _ => h.elim
  | _ :: _, [], h, _, _, _, _, _ => h.elim
def posU (x : List UInt8) : List (List UInt8) → Option Nat
  | [] => none
  | u :: U => if u = x then some 0 else (posU x U).map (· + 1)
theorem posU_none {x : List UInt8} : ∀ {U : List (List UInt8)}, posU x U = none → x ∉ U
  | [], _ => by simp
  | u :: U, h => by
    unfold posU at h
    split at h
    · cases h
    · rename_i hu
      have := posU_none (U := U) (by cases hp : posU x U with | none => rfl | some j => rw [hp] at h; cases h)
      simp only [List.mem_cons, not_or]
      exact ⟨fun e => hu e.symm, this⟩
theorem posU_some {x : List UInt8} : ∀ {U : List (List UInt8)} {j : Nat}, posU x U = some j → U[j]? = some x
  | [], j, h => by cases h
  | u :: U, j, h => by
    unfold posU at h
    split at h
    · rename_i hu; injection h with h; subst h; simpa using hu
    · cases hp : posU x U with
      | none => rw [hp] at h; cases h
      | some i => rw [hp] at h; injection h with h; subst h; simpa using posU_some hp
theorem same_str (a b : List UInt8) : Instr.sameNow .string (strv a) (strv b) = some (decide (b = a)) := by
  obtain ⟨r, hr, hi⟩ := Go.MapKept.sameNow_of_keys (d := .string) (a := strv a) (b := strv b) trivial trivial
  rw [hr]
  congr 1
  rw [Bool.eq_iff_iff, hi, decide_eq_true_eq]
  unfold strv
  constructor
  · intro e
    injection e with e
    have := congrArg (fun x => x.data.toList) e
    simpa using this.symm
  · intro e; rw [e]
theorem findNow_str (x : List UInt8) : ∀ (es : List MapEntry) (U : List (List UInt8)), EntU es U → ∀ n, Instr.findNow .string (strv x) es n = some ((posU x U).map fun j => (n + j, .bool true))
  | [], [], _, n => rfl
  | e :: es, u :: U, h, n => by
    unfold Instr.findNow posU
    rw [h.1, same_str]
    by_cases hu : u = x
    · rw [if_pos hu, decide_eq_true hu]; simp [h.2.1]
    · rw [if_neg hu, decide_eq_false hu]
      simp only
      rw [findNow_str x es U h.2.2 (n + 1)]
      cases posU x U with
      | none => rfl
      | some j => simp [Nat.add_comm, Nat.add_left_comm]
  | [], _ :: _, h, _ => h.elim
  | _ :: _, [], h, _ => h.elim
/-- a set of texts in memory -/
def SetAt (w : World) (r : Nat) (U : List (List UInt8)) : Prop := ∃ es clock, w.heap[r]? = some (.map es clock) ∧ EntU es.toList U
theorem SetAt.keep {F : Nat → Prop} {w w' : World} {r : Nat} {U : List (List UInt8)} (h : SetAt w r U) (k : Keeps F w w') (hF : ¬ F r) : SetAt w' r U := by
  obtain ⟨es, clock, h1, h2⟩ := h
  exact ⟨es, clock, by rw [k.block r (lt_of_block h1) hF]; exact h1, h2⟩
theorem SetAt.new (w : World) : SetAt (w.alloc (.map #[] 0)) w.heap.size [] := ⟨#[], 0, heap_alloc_last w _, trivial⟩
theorem checkKey_str (emp : Bool) (x : List UInt8) (n : Nat) (W : World) : (Instr.checkKey emp (n + 1) 9 (strv x)).run Tryz.prog W = .ok () W := by
  unfold strv
  rw [Instr.checkKey]
  simp only [Sem.run_bind, run_underlying Tryz.underlying9, Result.andThen_ok]
  rfl
theorem findKey_str (x : List UInt8) (es : List MapEntry) (U : List (List UInt8)) (h : EntU es U) (W : World) : (Instr.findKey 9 (strv x) es).run Tryz.prog W = .ok ((posU x U).map fun j => (j, .bool true)) W := by
  unfold Instr.findKey
  simp only [Sem.run_bind, run_underlying Tryz.underlying9, Result.andThen_ok]
  rw [findNow_str x es U h 0]
  simp
theorem SetAt.lookup {w : World} {r : Nat} {U : List (List UInt8)} (h : SetAt w r U) (x : List UInt8) : (Instr.lookup 140 (.map (some r)) (strv x) false).run Tryz.prog w = .ok (.bool (decide (x ∈ U))) w := by
  obtain ⟨es, clock, hr, hE⟩ := h
  have hg : (getObj r).run Tryz.prog w = .ok (.map es clock) w := by simp [getObj, Sem.run, hr]
  unfold Instr.lookup
  simp only [Sem.run_bind, run_underlying Tryz.underlying140, Result.andThen_ok, hg, Sem.run_pure]
  rw [show (10000 : Nat) = 9999 + 1 from rfl]
  simp only [checkKey_str, Result.andThen_ok, findKey_str x _ U hE]
  cases hp : posU x U with
  | none =>
    rw [decide_eq_false (posU_none hp)]
    simp [go_sem]
  | some j =>
    rw [decide_eq_true (List.mem_of_getElem? (posU_some hp))]
    simp
theorem SetAt.len {w : World} {r : Nat} {U : List (List UInt8)} (h : SetAt w r U) (ty : TypeId) : (Builtin.len_ #[140] ty #[.map (some r)]).run Tryz.prog w = .ok (.int .i64 U.length) w := by
  obtain ⟨es, clock, hr, hE⟩ := h
  have hg : (getObj r).run Tryz.prog w = .ok (.map es clock) w := by simp [getObj, Sem.run, hr]
  have hl := hE.len
  rw [Array.length_toList] at hl
  simp [Builtin.len_, run_underlying Tryz.underlying140, hg, goInt, hl]
def mapPut (w : World) (r : Nat) (o : Obj) : World := { w with heap := w.heap.setIfInBounds r o }
theorem mapPut_keeps (w : World) (r : Nat) (o : Obj) : Keeps (fun k => k = r) w (mapPut w r o) :=
  ⟨rfl, rfl, rfl, by simp [mapPut], fun k hk hn => by simp [mapPut, Array.getElem?_setIfInBounds, Ne.symm hn]⟩
theorem mapPut_at (w : World) (r : Nat) (o : Obj) (h : r < w.heap.size) : (mapPut w r o).heap[r]? = some o := by simp [mapPut, h]
def putU (U : List (List UInt8)) (x : List UInt8) : List (List UInt8) := if x ∈ U then U else U ++ [x]
theorem SetAt.put {w : World} {r : Nat} {U : List (List UInt8)} (h : SetAt w r U) (x : List UInt8) :
    ∃ w', (Instr.mapUpdate 140 (.map (some r)) (strv x) (.bool true)).run Tryz.prog w = .ok () w' ∧ SetAt w' r (putU U x) ∧ Keeps (fun k => k = r) w w' := by
  obtain ⟨es, clock, hr, hE⟩ := h
  have hg : (getObj r).run Tryz.prog w = .ok (.map es clock) w := by simp [getObj, Sem.run, hr]
  have hs : ∀ o, (setObj r o).run Tryz.prog w = .ok () (mapPut w r o) := fun o => by simp [setObj, Sem.run, hr, mapPut]
  cases hp : posU x U with
  | none =>
    refine ⟨mapPut w r (.map (es.push { key := strv x, val := .bool true, born := clock }) (clock + 1)), ?_, ⟨_, _, mapPut_at _ _ _ (lt_of_block hr), ?_⟩, mapPut_keeps _ _ _⟩
    · unfold Instr.mapUpdate
      simp only [Sem.run_bind, run_underlying Tryz.underlying140, Result.andThen_ok, hg, Sem.run_pure]
      rw [show (10000 : Nat) = 9999 + 1 from rfl]
      simp only [checkKey_str, Result.andThen_ok, findKey_str x _ U hE, hp]
      simp [hs]
    · unfold putU
      rw [if_neg (posU_none hp), Array.toList_push]
      exact hE.push _ x rfl rfl
  | some j =>
    have hj := posU_some hp
    refine ⟨mapPut w r (.map (es.modify j fun e => { e with key := strv x, val := .bool true }) clock), ?_, ⟨_, _, mapPut_at _ _ _ (lt_of_block hr), ?_⟩, mapPut_keeps _ _ _⟩
    · have hk : ∃ e, es[j]? = some e ∧ e.key = strv x := by
        have : ∀ {es : List MapEntry} {U : List (List UInt8)} {j : Nat}, EntU es U → U[j]? = some x → ∃ e, es[j]? = some e ∧ e.key = strv x := by
          intro es
          induction es with
          | nil => intro U j h h2; cases U with
            | nil => simp at h2
            | cons => exact h.elim
          | cons e es ih => intro U j h h2; cases U with
            | nil => exact h.elim
            | cons u U => cases j with
              | zero => simp at h2; subst h2; exact ⟨e, rfl, h.1⟩
              | succ j => simpa using ih h.2.2 (by simpa using h2)
        obtain ⟨e, he, hk⟩ := this hE hj
        exact ⟨e, by simpa using he, hk⟩
      obtain ⟨e, he, hek⟩ := hk
      have hst : (Instr.keyThatStays e.key (strv x)).run Tryz.prog w = .ok (strv x) w := by
        rw [hek]
        unfold Instr.keyThatStays strv
        rw [show (10000 : Nat) = 9999 + 1 from rfl]
        have hb : ((⟨x.toArray⟩ : ByteArray) == ⟨x.toArray⟩) = true := (Go.MapKept.bytes_beq _ _).2 rfl
        simp [Instr.sameBits, hb]
      unfold Instr.mapUpdate
      simp only [Sem.run_bind, run_underlying Tryz.underlying140, Result.andThen_ok, hg, Sem.run_pure]
      rw [show (10000 : Nat) = 9999 + 1 from rfl]
      simp only [checkKey_str, Result.andThen_ok, findKey_str x _ U hE, hp]
      simp [he, hst, hs]
    · unfold putU
      rw [if_pos (List.mem_of_getElem? hj), Array.toList_modify]
      exact hE.modify j _ x hj (fun e => ⟨rfl, rfl⟩)
end Go.Proofs.YtialookpnoaogaaGreat
/- The document's set and meet of layer 8, walked (gen_rvm.py). -/
set_option linter.unusedVariables false
set_option linter.unusedSimpArgs false
namespace Go.Proofs.YtialookpnoaogaaGreat
open Go.RowKit

/-- what is set -/
def setR (ls : List LineD) (h : Int) (n l : List UInt8) : Option (List UInt8) := (ls.find? (keyB h n l)).map (·.value)

set_option maxRecDepth 100000 in
set_option maxHeartbeats 8000000 in
theorem r8Set_any (v : Value) (ls : List LineD) (h : Int) (N L V : ByteArray) (b : Bool) (w : World) (hv : Hid (RowsAt 4 lineVals w v ls)) (hlen : ls.length ≤ 1000000) (hV : Hid (V = ⟨((setR ls h N.data.toList L.data.toList).getD []).toArray⟩)) (hb : Hid ((setR ls h N.data.toList L.data.toList).isSome = b)) :
    Calls Tryz.prog 67 #[v, .int .i64 h, .string N, .string L] w (NewRes (.tuple #[.string V, .bool b]) w) := by
  obtain ⟨p, c, rfl⟩ := hv.out.slice
  go_enter Tryz.func67, Tryz.ntmps67
  go_wp2_with fail
  go_loopw [10] (fun iv wr => ∃ (k : Nat), k ≤ ls.length ∧ iv = .int .i64 k ∧ Hid (∀ (j : Nat) (r : LineD), j < k → ls[j]? = some r → keyB h N.data.toList L.data.toList r = false) ∧ Hid (Keeps (fun _ => False) w wr)) (fun iv _ => ls.length - (intOf iv).toNat)
  case atStart => exact ⟨0, by omega, rfl, Lib.hid (fun _ _ h => by omega), Lib.hid (Keeps.refl _ _)⟩
  case round =>
    obtain ⟨k, hk, rfl, hno, hKw⟩ := hrel
    by_cases hlk : k < ls.length
    · obtain ⟨g, o, rfl, hrows⟩ := hv.out.open (by omega)
      obtain ⟨q, hq⟩ : ∃ q, ls[k]? = some q := ⟨_, List.getElem?_eq_getElem hlk⟩
      obtain ⟨Nq, hN⟩ : ∃ N : ByteArray, N = ⟨q.name.toArray⟩ := ⟨_, rfl⟩
      obtain ⟨Fq, hF⟩ : ∃ N : ByteArray, N = ⟨q.leaf.toArray⟩ := ⟨_, rfl⟩
      obtain ⟨Vq, hVq⟩ : ∃ N : ByteArray, N = ⟨q.value.toArray⟩ := ⟨_, rfl⟩
      have hrow : Hid (wr.rangeAt g (o + k * 4) [.int .i64 q.head, .string Nq, .string Fq, .string Vq]) := Lib.hid (by rw [hN, hF, hVq]; exact hKw.out.rangeAt (hrows k q hq) id)
      have hqd : Hid (q = ⟨q.head, Nq.data.toList, Fq.data.toList, Vq.data.toList⟩) := Lib.hid (by rw [hN, hF, hVq])
      have hq' := Lib.hid hq
      have hVq' := Lib.hid hVq
      have m1 : (0 : Int) ≤ (k : Int) := by omega
      have m2 : (k : Int) < (ls.length : Int) := by omega
      have c0 : wr.cell? ⟨g, o + k * 4, none⟩ = some (.int .i64 q.head) := hrow.out 0 _ rfl
      have c1 : wr.cell? ⟨g, o + k * 4 + 1, none⟩ = some (.string Nq) := hrow.out 1 _ rfl
      have c2 : wr.cell? ⟨g, o + k * 4 + 2, none⟩ = some (.string Fq) := hrow.out 2 _ rfl
      have c3 : wr.cell? ⟨g, o + k * 4 + 3, none⟩ = some (.string Vq) := hrow.out 3 _ rfl
      clear hrows hN hF hVq hq
      have hnext : keyB h N.data.toList L.data.toList q = false → ∀ (j : Nat) (r : LineD), j < k + 1 → ls[j]? = some r → keyB h N.data.toList L.data.toList r = false := fun e j r hj hjr => by
        by_cases e2 : j < k
        · exact hno.out j r e2 hjr
        · obtain rfl : j = k := by omega
          rw [hq'.out] at hjr; injection hjr with hjr; subst hjr; exact e
      have hnext' := Lib.hid hnext
      clear hnext
      by_cases a1 : q.head = h
      · have e1 : (q.head == h) = true := by simp [a1]
        have a1' := Lib.hid a1; clear a1
        by_cases a2 : Nq.data.toList = N.data.toList
        · have e2 : (Nq.toList == N.toList) = true := by rw [Lib.toList_data, Lib.toList_data]; simpa using a2
          have a2' := Lib.hid a2; clear a2
          by_cases a3 : Fq.data.toList = L.data.toList
          · have e3 : (Fq.toList == L.toList) = true := by rw [Lib.toList_data, Lib.toList_data]; simpa using a3
            have hkey : Hid (keyB h N.data.toList L.data.toList q = true) := Lib.hid (by rw [hqd.out]; unfold keyB; simp [a1'.out, a2'.out, a3])
            have hset : setR ls h N.data.toList L.data.toList = some q.value := by unfold setR; rw [find_first hq'.out hno.out hkey.out]; rfl
            have hVV : Hid (V = Vq) := Lib.hid (by rw [hV.out, hVq'.out, hset]; rfl)
            have hbb : Hid (b = true) := Lib.hid (by rw [← hb.out, hset]; rfl)
            clear a3 hnext' hset
            go_wp2_with fail
            go_ret2
            exact ⟨by rw [hVV.out, hbb.out]; rfl, hKw.out⟩
          · have e3 : (Fq.toList == L.toList) = false := by rw [Lib.toList_data, Lib.toList_data]; simpa using a3
            have hkey := Lib.hid (hnext'.out (by rw [hqd.out]; unfold keyB; simp [a3]))
            clear a3 c3
            go_wp2_with fail
            exact ⟨⟨k + 1, by omega, by go_num, hkey, hKw⟩, by simp [intOf]; omega⟩
        · have e2 : (Nq.toList == N.toList) = false := by rw [Lib.toList_data, Lib.toList_data]; simpa using a2
          have hkey := Lib.hid (hnext'.out (by rw [hqd.out]; unfold keyB; simp [a2]))
          clear a2 c2 c3
          go_wp2_with fail
          exact ⟨⟨k + 1, by omega, by go_num, hkey, hKw⟩, by simp [intOf]; omega⟩
      · have e1 : (q.head == h) = false := by simp [a1]
        have hkey := Lib.hid (hnext'.out (by unfold keyB; simp [a1]))
        clear a1 c1 c2 c3
        go_wp2_with fail
        exact ⟨⟨k + 1, by omega, by go_num, hkey, hKw⟩, by simp [intOf]; omega⟩
    · obtain rfl : k = ls.length := by omega
      have hset : setR ls h N.data.toList L.data.toList = none := by unfold setR; rw [find_nowhere hno.out]; rfl
      have hVV : Hid (V = ⟨#[]⟩) := Lib.hid (by rw [hV.out, hset]; rfl)
      have hbb : Hid (b = false) := Lib.hid (by rw [← hb.out, hset]; rfl)
      clear hset
      go_wp2_with fail
      go_ret2
      exact ⟨by rw [hVV.out, hbb.out]; rfl, hKw.out⟩

set_option maxRecDepth 100000 in
set_option maxHeartbeats 4000000 in
theorem r8Meet_some (A B : ByteArray) (x n y m : Nat) (z : Bool) (w : World) (ha : A.size ≤ 8796093022000) (hb : B.size ≤ 8796093022000) (hra' : Hid (netL A.data.toList = some (x, n))) (hrb' : Hid (netL B.data.toList = some (y, m))) (hz : Hid (meetL A.data.toList B.data.toList = z)) :
    Calls Tryz.prog 68 #[.string A, .string B] w (NewRes (.bool z) w) := by
  have hzz := hz.out
  unfold meetL at hzz
  rw [hra'.out, hrb'.out] at hzz
  have hin := netL_in hra'.out
  have hin2 := netL_in hrb'.out
  clear hz
  go_enter Tryz.func68, Tryz.ntmps68
  go_wp2_with fail
  refine (rNet_some A x n _ ha hra').mono ?_
  rintro e w1 ⟨rfl, k1⟩
  have hk1 := Lib.hid k1
  clear k1
  go_wp2_with fail
  refine (rNet_some B y m _ hb hrb').mono ?_
  rintro e w2 ⟨rfl, k2⟩
  have hk2 := Lib.hid (hk1.out.trans k2)
  clear k2
  obtain ⟨k, hk⟩ : ∃ k : Nat, 32 - min n m = k := ⟨_, rfl⟩
  obtain ⟨j, hj⟩ : ∃ j : Nat, min (n : Int) (m : Int) = (j : Int) ∧ 32 - (j : Int) = (k : Int) := ⟨min n m, by omega, by omega⟩
  obtain ⟨hM, hK⟩ := hj
  have hKw : IntKind.i64.wrap (k : Int) = (k : Int) := IntWalk.i64_in _ (by omega)
  have hk0 : (0 : Int) ≤ (k : Int) := by omega
  simp only [hk] at hzz
  have e9 : ((x : Int) / 2 ^ k == (y : Int) / 2 ^ k) = z := by
    rw [← hzz]
    have h1 : ((x : Int) / 2 ^ k) = ((x / 2 ^ k : Nat) : Int) := by simp
    have h2 : ((y : Int) / 2 ^ k) = ((y / 2 ^ k : Nat) : Int) := by simp
    rw [h1, h2]
    by_cases e : x / 2 ^ k = y / 2 ^ k
    · rw [e]; simp
    · have e2 : ¬ ((x / 2 ^ k : Nat) : Int) = ((y / 2 ^ k : Nat) : Int) := by omega
      rw [decide_eq_false e]
      exact beq_eq_false_iff_ne.2 e2
  clear hk
  go_upto_region 4 with fail
  refine wp_region_noPanic ?_
  refine wp_region_held_drew (S := (fun W => Keeps (fun _ => False) w2 W)) (by kernel_rfl) (((Keeps.refl _ _).drew)) (fun hHeld => ?_)
  refine tk 0 rfl ?_
  refine tk 1 rfl ?_
  refine tk 2 rfl ?_
  refine tk 3 rfl ?_
  refine tk 4 rfl ?_
  refine tk 5 rfl ?_
  refine tk 6 rfl ?_
  refine tk 7 rfl ?_
  refine tk 8 rfl ?_
  refine tk 9 rfl ?_
  refine wpAnyH_done (by kernel_rfl) (NoPanic.normal ?_) _
  have hk3 := Lib.hid (hk2.out.trans hHeld)
  clear hHeld
  go_wp2_with fail
  go_ret
  exact ⟨rfl, hk3.out⟩
end Go.Proofs.YtialookpnoaogaaGreat
/- The document's Same of faults (of two that are the same); the law's from. -/
set_option linter.unusedVariables false
set_option linter.unusedSimpArgs false
namespace Go.Proofs.YtialookpnoaogaaGreat
open Go.RowKit

theorem faultInfo8 : (Tryz.prog.info? 139).map (·.size) = some 2 := by kernel_rfl
theorem faultAll8 : ∃ i, Tryz.prog.info? 139 = some i ∧ i.zero = some (.agg #[.int .i64 0, .string ⟨#[]⟩]) ∧ i.size = 2 ∧ i.bytes = 24 := by
  have h : (Tryz.prog.info? 139).map (fun i => (i.zero, i.size, i.bytes)) = some (some (.agg #[.int .i64 0, .string ⟨#[]⟩]), 2, 24) := by kernel_rfl
  obtain ⟨i, hi, e⟩ := Option.map_eq_some_iff.1 h
  injection e with e1 e; injection e with e2 e3
  exact ⟨i, hi, e1, e2, e3⟩
theorem fault_neq (W : World) (k : Int) (n : ByteArray) : (binOp .neq 139 (.agg #[.int .i64 k, .string n]) (.agg #[.int .i64 k, .string n])).run Tryz.prog W = .ok (.bool false) W := by go_simp
theorem guardFault8 (op : BinOp) (x y : Operand) (xs ys : Array Value) (w : World) : (eqGuard op 139 x y (.agg xs) (.agg ys)).run Tryz.prog w = .ok () w := run_eqGuard_agg w op 139 x y xs ys (by kernel_rfl)
def FRes8 (fs : List FaultD) (w : World) (e : Ending) (w' : World) : Prop :=
  ∃ p c, e = .returned (.slice p fs.length c) ∧ OwnR 139 2 fVals w w' (.slice p fs.length c) fs ∧ Keeps (fun _ => False) w w'
end Go.Proofs.YtialookpnoaogaaGreat
/- The document's Check of layer 8, plain. -/
set_option linter.unusedVariables false
set_option linter.unusedSimpArgs false
namespace Go.Proofs.YtialookpnoaogaaGreat
open Go.RowKit

def one8 (b : Bool) (k : Int) (n : List UInt8) : List FaultD := if b = true then [⟨k, n⟩] else []
def usedS (ls : List LineD) (xs : List (List UInt8)) : List (List UInt8) := xs.foldl (fun U x => match setR ls 2 x areaL with | some a => putU U a | none => U) []
def zA (ls : List LineD) (F : List (List UInt8)) (kd : Nat) : Bool := decide (kd = 1) && (decide (0 < F.length) && (match setR ls 0 [] routerW with | none => true | some v => decide (v = boneW)))
def zB (U : List (List UInt8)) (kd : Nat) : Bool := decide (kd = 6) && (decide (1 < U.length) && !decide (boneW ∈ U))
def overAt (ls : List LineD) (own : Option (List UInt8)) (x : List UInt8) : Bool := match own, setR ls 2 x addressL with
  | some a, some b => meetL a b
  | _, _ => false
def overD (ls : List LineD) (F : List (List UInt8)) (i : Nat) (f : List UInt8) : Bool := (F.take i).any (overAt ls (setR ls 2 f addressL))
def zC (ls : List LineD) (F : List (List UInt8)) (kd i : Nat) (f : List UInt8) : Bool :=
  if kd = 2 then (setR ls 2 f areaL).isNone else if kd = 3 then (setR ls 2 f addressL).isNone else if kd = 4 then overD ls F i f
  else if kd = 5 then decide (decV (valueR ls 2 f deadW) ≤ decV (valueR ls 2 f helloW)) else false
def zD (ls : List LineD) (U : List (List UInt8)) (kd : Nat) (a : List UInt8) : Bool :=
  (decide (kd = 6) && (decide (a = boneW) && (match setR ls 1 a typeW with | some t => !decide (t = normalW) | none => false))) || (decide (kd = 7) && !decide (a ∈ U))
def zE (F : List (List UInt8)) (kd : Nat) : Bool := decide (kd = 8) && decide (8 < F.length)
def docF (ls : List LineD) (F : List (List UInt8)) (kd j : Nat) : List FaultD := (List.range j).flatMap (fun i => one8 (zC ls F kd i (F.getD i [])) kd (F.getD i []))
def docA (ls : List LineD) (U : List (List UInt8)) (kd : Nat) (xs : List (List UInt8)) : List FaultD := xs.flatMap (fun a => one8 (zD ls U kd a) kd a)
def docK (ls : List LineD) (F A : List (List UInt8)) (kd : Nat) : List FaultD :=
  one8 (zA ls F kd) 1 [] ++ one8 (zB (usedS ls F) kd) 6 [] ++ docF ls F kd F.length ++ docA ls (usedS ls F) kd A ++ one8 (zE F kd) 8 []
def docTo (ls : List LineD) (F A : List (List UInt8)) (k : Nat) : List FaultD := (List.range k).flatMap (fun i => docK ls F A (i + 1))
def docR (ls : List LineD) : List FaultD := docTo ls (namesA 2 ls) (namesA 1 ls) 8
theorem one8_len (b : Bool) (k : Int) (n : List UInt8) : (one8 b k n).length ≤ 1 := by unfold one8; split <;> simp
theorem docF_len (ls : List LineD) (F : List (List UInt8)) (kd j : Nat) : (docF ls F kd j).length ≤ j := by
  have := fm_len (f := fun i => one8 (zC ls F kd i (F.getD i [])) kd (F.getD i [])) (fun i => one8_len _ _ _) (List.range j)
  rw [List.length_range] at this; exact this
theorem docA_len (ls : List LineD) (U : List (List UInt8)) (kd : Nat) (xs : List (List UInt8)) : (docA ls U kd xs).length ≤ xs.length := fm_len (f := fun a => one8 (zD ls U kd a) kd a) (fun i => one8_len _ _ _) xs
theorem docF_step (ls : List LineD) (F : List (List UInt8)) (kd j : Nat) {f : List UInt8} (h : F[j]? = some f) : docF ls F kd (j + 1) = docF ls F kd j ++ one8 (zC ls F kd j f) kd f := by
  unfold docF
  rw [List.range_succ, List.flatMap_append]
  have e : F.getD j [] = f := by rw [List.getD_eq_getElem?_getD, h]; rfl
  simp only [List.flatMap_cons, List.flatMap_nil, List.append_nil, e]
theorem docA_step (ls : List LineD) (U : List (List UInt8)) (kd : Nat) {A : List (List UInt8)} {j : Nat} {a : List UInt8} (h : A[j]? = some a) : docA ls U kd (A.take (j + 1)) = docA ls U kd (A.take j) ++ one8 (zD ls U kd a) kd a := by
  unfold docA
  rw [List.take_add_one, h, List.flatMap_append]
  simp
theorem docTo_step (ls : List LineD) (F A : List (List UInt8)) (k : Nat) : docTo ls F A (k + 1) = docTo ls F A k ++ docK ls F A (k + 1) := by
  unfold docTo
  rw [List.range_succ, List.flatMap_append]
  simp
theorem docTo_len (ls : List LineD) (F A : List (List UInt8)) (k : Nat) (hF : F.length ≤ 64) (hA : A.length ≤ 64) : (docTo ls F A k).length ≤ 200 * k := by
  induction k with
  | zero => simp [docTo]
  | succ k ih =>
    rw [docTo_step, List.length_append]
    have h1 := docF_len ls F (k + 1) F.length
    have h2 := docA_len ls (usedS ls F) (k + 1) A
    have h3 := one8_len (zA ls F (k + 1)) 1 []
    have h4 := one8_len (zB (usedS ls F) (k + 1)) 6 []
    have h5 := one8_len (zE F (k + 1)) 8 []
    have : (docK ls F A (k + 1)).length ≤ 200 := by unfold docK; simp only [List.length_append]; omega
    omega
theorem used_step (ls : List LineD) (xs : List (List UInt8)) {j : Nat} {x : List UInt8} (h : xs[j]? = some x) : usedS ls (xs.take (j + 1)) = (match setR ls 2 x areaL with | some a => putU (usedS ls (xs.take j)) a | none => usedS ls (xs.take j)) := by
  unfold usedS
  rw [List.take_add_one, h, List.foldl_append]
  rfl
theorem over_step (ls : List LineD) (F : List (List UInt8)) (own : Option (List UInt8)) {j : Nat} {x : List UInt8} (h : F[j]? = some x) : (F.take (j + 1)).any (overAt ls own) = ((F.take j).any (overAt ls own) || overAt ls own x) := by
  rw [List.take_add_one, h, List.any_append]
  simp
/-- the answer so far, beside the set -/
structure OutS (w2 w : World) (r : Nat) (U : List (List UInt8)) (v : Value) (L : List FaultD) : Prop where
  own : OwnR 139 2 fVals w2 w v L
  k : Keeps (fun _ => False) w2 w
  s : SetAt w r U
  ne : ∀ k, v.ownBlock = some k → k ≠ r
theorem OutS.keep {w2 w w' : World} {r : Nat} {U : List (List UInt8)} {v : Value} {L : List FaultD} (h : OutS w2 w r U v L) (k : Keeps (fun _ => False) w w') : OutS w2 w' r U v L :=
  ⟨h.own.keep k (fun _ _ f => f), h.k.trans k, h.s.keep k id, h.ne⟩
theorem SetAt.lt {w : World} {r : Nat} {U : List (List UInt8)} (h : SetAt w r U) : r < w.heap.size := by
  obtain ⟨es, clock, h1, -⟩ := h; exact lt_of_block h1
theorem OutS.grow {w2 w w' : World} {r : Nat} {U : List (List UInt8)} {v : Value} {L L' : List FaultD} {p : Option Addr} {n c : Nat} (h : OutS w2 w r U v L) (ho : OwnR 139 2 fVals w2 w' (.slice p n c) L') (g : Grown w v p n c w') : OutS w2 w' r U (.slice p n c) L' :=
  ⟨ho, h.own.keeps h.k g, h.s.keep g.k (fun e => h.ne r e rfl), fun k e => by
    rcases g.s k e with e2 | e2
    · exact h.ne k e2
    · have := h.s.lt; omega⟩
end Go.Proofs.YtialookpnoaogaaGreat
/- What is set in a right configuration is right, plain. -/
set_option linter.unusedVariables false
set_option linter.unusedSimpArgs false
namespace Go.Proofs.YtialookpnoaogaaGreat
open Go.RowKit

theorem set_line {ls : List LineD} {h : Int} {n l v : List UInt8} (e : setR ls h n l = some v) : ∃ q ∈ ls, q.head = h ∧ q.name = n ∧ q.leaf = l ∧ q.value = v := by
  unfold setR at e
  obtain ⟨q, hq, rfl⟩ := Option.map_eq_some_iff.1 e
  have h1 := List.find?_some hq
  unfold keyB at h1
  simp only [Bool.and_eq_true, decide_eq_true_eq] at h1
  exact ⟨q, List.mem_of_find?_eq_some hq, h1.1.1, h1.1.2, h1.2, rfl⟩
theorem set_right {ls : List LineD} (hr : rightC ls = true) {h : Int} {n l v : List UInt8} {r : RowD} (hf : findD h l = some r) (e : setR ls h n l = some v) : namedB h n = true ∧ rightB r.kind r.lo r.hi r.cs v = true := by
  obtain ⟨q, hq, rfl, rfl, rfl, rfl⟩ := set_line e
  have := right_line hr q hq
  unfold lineB at this
  rw [hf] at this
  simpa using this
theorem net_set {ls : List LineD} (hr : rightC ls = true) {x v : List UInt8} (e : setR ls 2 x addressL = some v) : ∃ a n, netL v = some (a, n) := by
  have h := (set_right hr (r := ⟨2, [97, 100, 100, 114, 101, 115, 115], 1, 0, 0, [], [], 4⟩) rfl e).2
  unfold rightB at h
  simp only [show ¬ (1 : Int) = 0 by decide, if_false, if_true] at h
  cases hn : netL v with
  | none => rw [hn] at h; cases h
  | some p => exact ⟨p.1, p.2, rfl⟩
theorem area_set {ls : List LineD} (hr : rightC ls = true) {x v : List UInt8} (e : setR ls 2 x areaL = some v) : v ≠ [] := by
  have h := (set_right hr (r := ⟨2, [97, 114, 101, 97], 0, 0, 0, [], [], 5⟩) rfl e).2
  unfold rightB at h
  simp only [if_true] at h
  rintro rfl
  revert h; decide
theorem id_set {ls : List LineD} (hr : rightC ls = true) {v : List UInt8} (e : setR ls 0 [] routerW = some v) : v ≠ [] := by
  have h := (set_right hr (r := ⟨0, [114, 111, 117, 116, 101, 114, 45, 105, 100], 0, 0, 0, [], [], 6⟩) rfl e).2
  unfold rightB at h
  simp only [if_true] at h
  rintro rfl
  revert h; decide
theorem value_set {ls : List LineD} {h : Int} {n l : List UInt8} {r : RowD} (hf : findD h l = some r) : valueR ls h n l = (setR ls h n l).getD r.df := by
  unfold valueR setR
  cases ls.find? (keyB h n l) with
  | some q => rfl
  | none => rw [hf]; rfl
theorem area_value (ls : List LineD) (x : List UInt8) : valueR ls 2 x areaL = (setR ls 2 x areaL).getD [] := value_set (r := ⟨2, [97, 114, 101, 97], 0, 0, 0, [], [], 5⟩) rfl
theorem net_value (ls : List LineD) (x : List UInt8) : valueR ls 2 x addressL = (setR ls 2 x addressL).getD [] := value_set (r := ⟨2, [97, 100, 100, 114, 101, 115, 115], 1, 0, 0, [], [], 4⟩) rfl
theorem id_value (ls : List LineD) : valueR ls 0 [] routerW = (setR ls 0 [] routerW).getD [] := value_set (r := ⟨0, [114, 111, 117, 116, 101, 114, 45, 105, 100], 0, 0, 0, [], [], 6⟩) rfl
theorem type_value (ls : List LineD) (x : List UInt8) : valueR ls 1 x typeW = (setR ls 1 x typeW).getD normalW := value_set (r := ⟨1, [116, 121, 112, 101], 3, 0, 0, [[110, 111, 114, 109, 97, 108], [115, 116, 117, 98], [110, 115, 115, 97]], [110, 111, 114, 109, 97, 108], 3⟩) rfl
/-- the document's Decimal, as a number -/
theorem rdec_k (S : ByteArray) (w : World) : Calls Tryz.prog 69 #[.string S] w fun e w' => (∃ o, e = .returned (.tuple #[.int .i64 (decV S.data.toList), .bool o])) ∧ w = w' := by
  cases hd : decL S.data.toList with
  | none =>
    refine (rDec_r S none w (Lib.hid hd)).mono ?_
    rintro e w' ⟨rfl, rfl⟩
    exact ⟨⟨false, by unfold decV; rw [hd]; rfl⟩, rfl⟩
  | some n =>
    refine (rDec_r S (some n) w (Lib.hid hd)).mono ?_
    rintro e w' ⟨rfl, rfl⟩
    exact ⟨⟨true, by unfold decV; rw [hd]; rfl⟩, rfl⟩
theorem decV_in (s : List UInt8) : 0 ≤ decV s := by unfold decV; split <;> omega
theorem set_small {ls : List LineD} (hr : rightC ls = true) {h : Int} {n l v : List UInt8} (e : setR ls h n l = some v) : v.length ≤ 100 := by
  obtain ⟨q, hq, -, -, -, rfl⟩ := set_line e
  exact (line_small (right_line hr q hq)).2.2
theorem ba_len (A : ByteArray) : A.data.toList.length = A.size := Array.length_toList
theorem one_yes {b : Bool} {k : Int} {n : List UInt8} (h : b = true) : one8 b k n = [⟨k, n⟩] := by unfold one8; rw [if_pos h]
theorem one_no {b : Bool} {k : Int} {n : List UInt8} (h : b = false) : one8 b k n = [] := by unfold one8; rw [if_neg (by rw [h]; exact Bool.false_ne_true)]
end Go.Proofs.YtialookpnoaogaaGreat
