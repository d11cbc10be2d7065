/- append of noughts: as of a text of noughts. -/
import Derived.Test.YtcmpbablmofofaaJS
import Derived.Deep.AppendSrc
import Derived.Deep.DeepAppendWide
import Derived.Lib.AppendStr
set_option linter.unusedVariables false
set_option linter.unusedSimpArgs false
namespace Go.Proofs.Ytcmpbablmofofaa
open Go.RowKit
section
variable [Inhabited BaseN]

end
theorem zero_cells (n : Nat) : Builtin.zeroCells #[Value.int .u8 0] n = (byteCells ⟨(noughts n).toArray⟩).toArray := by
  apply Array.ext
  · simp [Builtin.zeroCells, byteCells, noughts]
  · intro i h1 h2
    simp [Builtin.zeroCells, byteCells, noughts]
    rw [Nat.mod_one]; rfl
theorem append_zeros {P : Program} (w : World) (t ti ts ty e : TypeId) (i : TypeInfo) (ht : P.underlying t = some (.slice e)) (hti : P.underlying ti = some (.int .i64)) (hts : P.underlying ts = some .string) (hi : P.info? e = some i) (hz : i.zero = some (.int .u8 0)) (hsize : i.size = 1) (hby : i.bytes = 1)
    (p : Option Addr) (sLen sCap n : Nat) (hn : n ≤ 1000000) (hs : sLen ≤ 1000000000) :
    (Builtin.append_ #[t, ti] ty #[.slice p sLen sCap, .int .i64 n]).run P w = (Builtin.append_ #[t, ts] ty #[.slice p sLen sCap, .string ⟨(noughts n).toArray⟩]).run P w := by
  have hw : IntKind.i64.wrap (n : Int) = (n : Int) := IntWalk.i64_in _ (by omega)
  have hsz : (⟨(noughts n).toArray⟩ : ByteArray).size = n := by show (noughts n).toArray.size = n; rw [List.size_toArray, noughts_len]
  have hneg : ¬ ((n : Int) < 0) := by omega
  have hbig : ¬ (281474976710656 < (n : Int)) := by omega
  have h63 : ¬ (9223372036854775807 < ((sLen : Int) + (n : Int))) := by omega
  have hf : ∀ w', (Builtin.firstCells 1 n (.string ⟨(noughts n).toArray⟩)).run P w' = .ok (byteCells ⟨(noughts n).toArray⟩).toArray w' := fun w' => by
    have h := firstCells_string (P := P) ⟨(noughts n).toArray⟩ w'
    rw [hsz] at h; exact h
  have hai : (asIntOf (Value.int IntKind.i64 (n : Int))).run P w = .ok (.i64, (n : Int)) w := by simp [asIntOf]
  have hcell : (Value.int IntKind.u8 0).cells = #[Value.int IntKind.u8 0] := rfl
  by_cases hr : sLen + n ≤ sCap
  · simp [Builtin.append_, run_underlying ht, run_underlying hti, run_underlying hts, sizeOf, typeInfo, zeroValue, hi, hz, hsize, hby, Builtin.lenOf, hw, hsz, hneg, hbig, hr, asInt, hai, hcell, zero_cells, hf]
    intro h0
    subst h0
    rfl
  · have hfit : ¬ (281474976710656 < (Builtin.nextslicecap (sLen + n) sCap : Int)) := by
      have := nextslicecap_le_wide (need := sLen + n) (old := sCap) (by omega)
      omega
    have hfit2 : ¬ (281474976710656 < Builtin.nextslicecap (sLen + n) sCap) := by omega
    have h0 : ¬ n = 0 ∨ n = 0 := by omega
    simp [Builtin.append_, run_underlying ht, run_underlying hti, run_underlying hts, sizeOf, typeInfo, zeroValue, hi, hz, hsize, hby, Builtin.lenOf, hw, hsz, hneg, hbig, hr, asInt, hai, hcell, zero_cells, hf, h63, hfit, hfit2]
    rcases h0 with h0 | h0
    · simp only [if_neg h0]
    · subst h0
      have e0 : byteCells ⟨(noughts 0).toArray⟩ = [] := rfl
      simp [e0]
theorem strCells_noughts (n : Nat) : Lib.strCells ⟨(noughts n).toArray⟩ = (noughts n).map bv := rfl
theorem wpList_append_z {P : Program} {w : World} {ops : Array Oper} {rest : List Oper} {o : Oper} {a : Act} {Q : Exit → Act → World → Prop} (hgd : o.guard = none) (s x : Operand) (t ti ts : TypeId)
    (ho : o.op = .call { callee := .builtin .append, args := #[s, x], argTypes := #[t, ti] })
    (i : TypeInfo) (ht : P.underlying t = some (.slice 5)) (hti : P.underlying ti = some (.int .i64)) (hts : P.underlying ts = some .string) (hi : P.info? 5 = some i) (hz : i.zero = some (.int .u8 0)) (hsize : i.size = 1) (hby : i.bytes = 1)
    (w0 : World) (g m c : Nat) (xs : List UInt8) (hs : a.eval s = .slice (some ⟨g, 0, none⟩) m c) (hown : OwnB w0 w (.slice (some ⟨g, 0, none⟩) m c) xs) (n : Nat) (hx : a.eval x = .int .i64 n) (hn : n ≤ 1000000) (hsz : xs.length ≤ 1000000000)
    (h : ∀ p c' w', Hid (OwnB w0 w' (.slice p (xs.length + n) c') (xs ++ noughts n)) → Hid (Grown w (.slice (some ⟨g, 0, none⟩) m c) p (xs.length + n) c' w') → wpList P ops Q rest (a.put o.dst (.slice p (xs.length + n) c')) w') : wpList P ops Q (o :: rest) a w := by
  obtain ⟨p0, c0, e0⟩ := hown.slice
  injection e0 with e1 e2 e3
  subst e1; subst e2
  refine wpList_plain hgd fun K hK => ?_
  have hss : (⟨(noughts n).toArray⟩ : ByteArray).size = n := by show (noughts n).toArray.size = n; rw [List.size_toArray, noughts_len]
  obtain ⟨v', w', hr, h2, h3, -⟩ := Lib.run_append_own_string (P := P) w 0 t ts o.type 5 i ht hts hi hz hsize hby _ xs.length (xs.map bv) hown.1 ⟨(noughts n).toArray⟩ (by rw [hss]; unfold maxLen; omega) (by rw [hss]; omega) (Nat.zero_le _)
  rw [← append_zeros w t ti ts o.type 5 i ht hti hts hi hz hsize hby (some ⟨g, 0, none⟩) xs.length c n hn hsz] at hr
  rw [hss, strCells_noughts, ← List.map_append] at h2
  obtain ⟨p, c', rfl⟩ := ownsRow_slice h2
  have hnew : ∀ k, (Value.slice p (xs.length + n) c').ownBlock = some k → (Value.slice (some ⟨g, 0, none⟩) xs.length c).ownBlock = some k ∨ w.heap.size ≤ k := by
    rcases hown.1.2 with ⟨e, -⟩ | ⟨g', cap, cur, e, hbg, hg, hnc, hcm, hcs, htake⟩
    · cases e
    · injection e with e1 e2 e3
      injection e1 with e1; injection e1 with e1
      subst e1; subst e3
      have hr2 := hr
      rw [append_zeros w t ti ts o.type 5 i ht hti hts hi hz hsize hby (some ⟨g, 0, none⟩) xs.length c n hn hsz] at hr2
      by_cases hroom : xs.length + n ≤ c
      · have hcz : cur.size = c := by simpa using hcs
        have e := Lib.run_append_room_string (P := P) w t ts o.type 5 i ht hts hi hsize g xs.length c cur hg ⟨(noughts n).toArray⟩ (by rw [hss]; exact hroom) (by rw [hss]; omega)
        rw [hr2] at e; injection e with e1 e2; injection e1 with e1
        intro k hk; left; rw [e1] at hk; exact hk
      · have holds : ∀ j u, (xs.map bv)[j]? = some u → w.cell? ((⟨g, 0, none⟩ : Addr).add j) = some u := hown.1.cells (g := g) rfl
        have e := Lib.run_append_grow_string (P := P) w t ts o.type 5 i (.int .u8 0) ht hts hi hz ⟨g, 0, none⟩ xs.length c (xs.map bv) (by rw [hsize]; simp) holds ⟨(noughts n).toArray⟩ (by rw [hss]; omega) (by rw [hss]; omega) (by rw [hss, hby]; exact growslice_fits (by omega) (by omega))
        rw [hr2] at e; injection e with e1 e2; injection e1 with e1
        intro k hk
        rw [e1] at hk
        have hk : some w.heap.size = some k := hk
        injection hk with hk; right; omega
  unfold Oper.wp execOp
  simp only [ho, resolve, invoke, builtin, Sem.run_bind, Sem.run_pure, Result.andThen_ok, List.map_toArray, List.map_cons, List.map_nil, hs, hx, hr]
  refine hK _ _ (h p c' w' (Lib.hid ⟨by rw [List.length_append, noughts_len]; exact h2, fun k e => ?_, Nat.le_trans hown.2.2 h3.size⟩) (Lib.hid ⟨(Keeps.refl _ _).grown h3 (fun k e => .inl e), hnew⟩))
  rcases hnew k e with e | e
  · exact hown.2.1 k e
  · exact Nat.le_trans hown.2.2 e
end Go.Proofs.Ytcmpbablmofofaa
