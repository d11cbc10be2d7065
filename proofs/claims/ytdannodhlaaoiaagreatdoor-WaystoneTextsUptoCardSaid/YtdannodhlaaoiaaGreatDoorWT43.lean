/- WaystoneTexts: stands; lines of the call's own through a journal's calls. -/
import Derived.Test.YtdannodhlaaoiaaGreatDoorWT42
import Derived.Lib.SlBytesConst
import Derived.Test.YtdannodhlaaoiaaGreatDoorWT23
import Derived.Test.YtdannodhlaaoiaaGreatDoorWT27
import Derived.Deep.DeepCutAuto
import Derived.BigQuiet
import Derived.Test.YtdannodhlaaoiaaGreatDoorWT28
import Derived.Test.YtdannodhlaaoiaaGreatDoorWT15
set_option linter.unusedVariables false
set_option linter.unusedSimpArgs false
set_option linter.unusedVariables false
set_option linter.unusedSimpArgs false
namespace Go.Proofs.YtdannodhlaaoiaaGreatDoor
open Go.RowKit

theorem stand9 : crc [49, 50, 51, 52, 53, 54, 55, 56, 57] = 3421780262 := by kernel_rfl
theorem const_bytes9 (w : World) (l : List UInt8) (n : Nat) (hn : l.length = n) (r : Nat × Nat) : BytesAt (w.alloc (.cells (l.map bv).toArray 5 r)) (.slice (some ⟨w.heap.size, 0, none⟩) n n) l := by
  subst hn
  have hb : (w.alloc (.cells (l.map bv).toArray 5 r)).heap[w.heap.size]? = some (.cells (l.map bv).toArray 5 r) := heap_alloc_last w _
  refine BytesAt.of rfl (Nat.le_refl _) (fun j u hu => ?_)
  unfold World.cell?
  simp only [hb]
  simpa using hu
set_option maxRecDepth 100000 in
set_option maxHeartbeats 4000000 in
theorem topStands_any (w : World) : Calls Tryz.prog 11 #[] w fun e w' => e = .returned (.bool true) ∧ Keeps (fun _ => False) w w' := by
  have hcv := Lib.run_convert_bytes_const (P := Tryz.prog) w 31 5 (([49, 50, 51, 52, 53, 54, 55, 56, 57] : List UInt8).map bv).toArray 9 9 Tryz.underlying31 Tryz.underlying5
  have hcb := const_bytes9 w [49, 50, 51, 52, 53, 54, 55, 56, 57] 9 rfl (9, 10)
  obtain ⟨w8, hw8⟩ : ∃ W, w.alloc (.cells (([49, 50, 51, 52, 53, 54, 55, 56, 57] : List UInt8).map bv).toArray 5 (9, 10)) = W := ⟨_, rfl⟩
  have hcv' : (convert 31 31 (.slice (some ⟨w.heap.size, 0, none⟩) 9 9)).run Tryz.prog (w.alloc (.cells #[.int .u8 49, .int .u8 50, .int .u8 51, .int .u8 52, .int .u8 53, .int .u8 54, .int .u8 55, .int .u8 56, .int .u8 57] 5)) = .ok (.slice (some ⟨w.heap.size, 0, none⟩) 9 9) w8 := by rw [← hw8]; exact hcv
  rw [hw8] at hcb
  have hk8 : Hid (Keeps (fun _ => False) w w8) := Lib.hid (by rw [← hw8]; exact (Keeps.refl _ _).alloc _)
  have hcr := Lib.hid (crc_any (.slice (some ⟨w.heap.size, 0, none⟩) 9 9) [49, 50, 51, 52, 53, 54, 55, 56, 57] (by decide) w8 (Lib.hid hcb))
  rw [stand9] at hcr
  clear hcv hcb hw8
  go_enter Tryz.func11, Tryz.ntmps11
  go_wp2_with fail
  refine hcr.out.mono ?_
  rintro e w9 ⟨rfl, rfl⟩
  clear hcr hcv'
  go_wp2_with fail
  go_ret
  exact ⟨rfl, hk8.out⟩
theorem crash_la {D : Dk} (h : Quiet D) : (D.crash []).la = D.la ∧ (D.crash []).n = D.n ∧ (D.crash []).b = D.b ∧ Quiet (D.crash []) := by
  refine ⟨?_, rfl, rfl, crash_quiet _ _⟩
  show D.settled (fun k => ([] : List Bool).getD k false) = D.la
  funext k
  unfold Dk.settled
  rw [h.ord, if_neg (by simp), h.st]
theorem own_line_keep {F : Nat → Prop} {w0 W W' : World} {v : Value} {xs : List LineD} (h : OwnR 50 4 lineVals w0 W v xs) (k : Keeps F W W') (hF : ∀ i, F i → ∃ cs t r, W.heap[i]? = some (.cells cs t r) ∧ (t = 86 ∨ t = 139 ∨ t = 3 ∨ t = 94 ∨ t = 31)) : OwnR 50 4 lineVals w0 W' v xs :=
  h.keep k (fun i e f => by
    obtain ⟨cs, t, r, h1, h2⟩ := hF i f
    rcases h.1.2 with ⟨e1, -⟩ | ⟨g, cap, cur, e1, -, hg, -⟩
    · rw [e1] at e; simp [Value.ownBlock] at e
    · rw [e1] at e
      simp only [Value.ownBlock, Option.some.injEq] at e
      subst e
      rw [hg] at h1
      injection h1 with h1
      injection h1 with _ h1 _
      subst h1
      revert h2; decide)
section
variable [Inhabited BaseN]
theorem own_line_D {w0 W W' : World} {v : Value} {xs : List LineD} (h : OwnR 50 4 lineVals w0 W v xs) (k : KeepD W W') : OwnR 50 4 lineVals w0 W' v xs :=
  own_line_keep h k (fun i ⟨_, cs, t, r, h1, h2⟩ => ⟨cs, t, r, h1, by rcases h2 with h2 | h2 | h2 <;> simp [h2]⟩)
theorem own_line_J {w0 W W' : World} {v : Value} {xs : List LineD} (h : OwnR 50 4 lineVals w0 W v xs) (k : KeepJ W W') : OwnR 50 4 lineVals w0 W' v xs :=
  own_line_keep h k (fun i ⟨_, cs, t, r, h1, h2⟩ => ⟨cs, t, r, h1, h2⟩)
theorem own_bytes_notD {w0 W : World} {v : Value} {x : List UInt8} (h : OwnB w0 W v x) : ∀ i, v.ownBlock = some i → ¬ DTy W i := fun i e ⟨_, cs, t, r, h1, h2⟩ => by
  obtain ⟨cs2, r2, h3⟩ := h.ty e
  rw [h3] at h1
  injection h1 with h1
  injection h1 with _ h1 _
  subst h1
  revert h2; decide
end
end Go.Proofs.YtdannodhlaaoiaaGreatDoor
/- The document's Text of any right configuration, walked (gen_zti.py: a part of CGS). -/
set_option linter.unusedVariables false
set_option linter.unusedSimpArgs false
namespace Go.Proofs.YtdannodhlaaoiaaGreatDoor
open Go.RowKit

end Go.Proofs.YtdannodhlaaoiaaGreatDoor
/- ParseAgain, walked. -/
set_option linter.unusedVariables false
set_option linter.unusedSimpArgs false
namespace Go.Proofs.YtdannodhlaaoiaaGreatDoor
open Go.RowKit

def singles (l : List LineD) : List UInt8 := l.flatMap (fun q => textK [q] 1)
def singlesT (l : List LineD) : List (List UInt8) := l.flatMap (fun q => textT [q] 1)
theorem singles_lx {l : List LineD} (h : ∀ q ∈ l, lineB q = true) : Lx (singles l) (singlesT l) := by
  induction l with
  | nil => exact Lx.nil
  | cons q l ih =>
    have e1 : singles (q :: l) = textK [q] 1 ++ singles l := by unfold singles; simp
    have e2 : singlesT (q :: l) = textT [q] 1 ++ singlesT l := by unfold singlesT; simp
    rw [e1, e2]
    exact (text_lx (fun x hx => by simp at hx; subst hx; exact h _ (List.mem_cons_self ..)) 1).app (ih (fun x hx => h x (List.mem_cons_of_mem _ hx)))
theorem singles_set {l : List LineD} (h : ∀ q ∈ l, lineB q = true) : ∀ (r : List (List UInt8)) (s : StP), textD none (singlesT l ++ r) s = textD none r (l.foldl putS s) := by
  induction l with
  | nil => intro r s; rfl
  | cons q l ih =>
    intro r s
    have e2 : singlesT (q :: l) = textT [q] 1 ++ singlesT l := by unfold singlesT; simp
    have h1 := text_whole (ls := [q]) (fun x hx => by simp at hx; subst hx; exact h _ (List.mem_cons_self ..)) (singlesT l ++ r) s
    rw [e2, List.append_assoc]
    exact h1.trans (ih (fun x hx => h x (List.mem_cons_of_mem _ hx)) _ _)
def rotL (c : List LineD) (m : Nat) : List LineD := c.drop m ++ c.take m
theorem rot_perm (c : List LineD) (m : Nat) : (rotL c m).Perm c := by
  unfold rotL
  have := List.perm_append_comm (l₁ := c.drop m) (l₂ := c.take m)
  rwa [List.take_append_drop] at this
theorem rot_len (c : List LineD) (m : Nat) : (rotL c m).length = c.length := (rot_perm c m).length_eq
theorem rot_get {c : List LineD} {t i : Nat} (hi : i < c.length) : (rotL c (t % c.length))[i]? = c[(i + t) % c.length]? := by
  have hm : t % c.length < c.length := Nat.mod_lt _ (by omega)
  have hk : (i + t) % c.length = (i + t % c.length) % c.length := by simp
  rw [hk]
  generalize t % c.length = m at hm
  unfold rotL
  by_cases h : i < c.length - m
  · rw [List.getElem?_append_left (by rw [List.length_drop]; exact h), List.getElem?_drop, Nat.mod_eq_of_lt (by omega), Nat.add_comm]
  · rw [List.getElem?_append_right (by rw [List.length_drop]; omega), List.length_drop, List.getElem?_take, if_pos (by omega)]
    have : (i + m) % c.length = i + m - c.length := by
      rw [Nat.mod_eq_sub_mod (by omega), Nat.mod_eq_of_lt (by omega)]
    rw [this]
    congr 1
    omega
theorem again_ok {c : List LineD} (hr : rightC c = true) : ansT (textK c c.length) = (c, 0) := by
  have hl := (text_lx (right_line hr) c.length).ok
  refine ansT_ok hl ?_
  have := text_whole (right_line hr) [] ([], false)
  rw [List.append_nil] at this
  rw [this, fold_perm hr (List.Perm.refl c)]
  exact textD_nil _
theorem turned_ok {c l : List LineD} (hr : rightC c = true) (hp : l.Perm c) : ansT (singles l) = (c, 0) := by
  have hB : ∀ q ∈ l, lineB q = true := fun q hq => right_line hr q (hp.mem_iff.1 hq)
  refine ansT_ok (singles_lx hB).ok ?_
  have := singles_set hB [] ([], false)
  rw [List.append_nil] at this
  rw [this, fold_perm hr hp]
  exact textD_nil _
theorem right_one {q : LineD} (h : lineB q = true) : rightC [q] = true := right_of (fun l hl => by simp at hl; subst hl; exact h) trivial (by simp)
theorem singles_snoc (l : List LineD) (q : LineD) : singles (l ++ [q]) = singles l ++ textK [q] 1 := by unfold singles; simp
theorem singles_take {l : List LineD} {i : Nat} {q : LineD} (h : l[i]? = some q) : singles (l.take (i + 1)) = singles (l.take i) ++ textK [q] 1 := by
  rw [List.take_add_one, h]; exact singles_snoc _ _
theorem row_of_blk {W : World} {g : Nat} {h : Int} {N F V : ByteArray} {c : Nat} (hc : 1 ≤ c) (hb : BlkAt W g 62 [.int .i64 h, .string N, .string F, .string V]) : RowsAt 4 lineVals W (.slice (some ⟨g, 0, none⟩) 1 c) [⟨h, N.data.toList, F.data.toList, V.data.toList⟩] :=
  ⟨_, _, rfl, (fun e => by cases e), hc, fun _ => ⟨g, 0, rfl, fun i x hx => by
    cases i with
    | zero =>
      simp at hx; subst hx
      rw [Nat.zero_mul, Nat.add_zero]
      exact hb.range
    | succ i => simp at hx⟩⟩
theorem u64_natb (n : Int) : ∃ U : Nat, IntKind.u64.wrap n = (U : Int) := by
  refine ⟨(n % 18446744073709551616).toNat, ?_⟩
  have e : IntKind.u64.wrap n = n % 18446744073709551616 := by
    unfold IntKind.wrap
    have h1 : IntKind.u64.signed = false := rfl
    have h2 : (2 : Int) ^ IntKind.u64.bits = 18446744073709551616 := rfl
    simp [h1, h2]
  rw [e]; omega

end Go.Proofs.YtdannodhlaaoiaaGreatDoor
/- A text's bytes behind bytes of the call's own; a new block beside them. -/
set_option linter.unusedVariables false
set_option linter.unusedSimpArgs false
namespace Go.Proofs.YtdannodhlaaoiaaGreatDoor
open Go.RowKit

theorem strCells_bv (s : ByteArray) : Lib.strCells s = s.data.toList.map bv := by
  simp [Lib.strCells, Lib.byteCells, bv]
theorem OwnB.lt' {w0 w : World} {v : Value} {xs : List UInt8} (h : OwnB w0 w v xs) : ∀ k, v.ownBlock = some k → k < w.heap.size := fun k e => (h.1.lt k e).2
theorem OwnB.notBlk {w0 w : World} {v : Value} {xs : List UInt8} (h : OwnB w0 w v xs) {g : Nat} {t : TypeId} {cs : List Value} (hb : BlkAt w g t cs) (ht : t ≠ 5) : ¬ v.ownBlock = some g := fun e => by
  rcases h.1.2 with ⟨rfl, -⟩ | ⟨g2, cap, cur, rfl, -, hg, -⟩
  · cases e
  · simp only [Value.ownBlock, Option.some.injEq] at e
    subst e
    have hb : w.heap[g2]? = _ := hb
    rw [hb] at hg
    injection hg with hg
    injection hg with h1 h2 h3
    exact ht h2
theorem run_append_bx {P : Program} (w : World) (t ty : TypeId) (i : TypeInfo) (ht : P.underlying t = some (.slice 5)) (hi : P.info? 5 = some i) (hz : i.zero = some (.int .u8 0)) (hsize : i.size = 1) (hby : i.bytes = 1)
    (w0 : World) (v : Value) (xs : List UInt8) (hown : OwnB w0 w v xs) (sv : Value) (l : List UInt8) (hl : BytesAt w sv l) (hsz : xs.length + l.length ≤ 70368744177664) :
    ∃ p c w', (Builtin.append_ #[t, t] ty #[v, sv]).run P w = .ok (.slice p (xs.length + l.length) c) w' ∧ OwnB w0 w' (.slice p (xs.length + l.length) c) (xs ++ l) ∧ Grown w v p (xs.length + l.length) c w' := by
  obtain ⟨sp, sc, rfl, hp, -, hlr⟩ := hl
  cases sp with
  | none =>
    have h0 : l.length = 0 := by
      rcases Nat.eq_zero_or_pos l.length with h | h
      · exact h
      · obtain ⟨b, o, e, _⟩ := hlr h; cases e
    have hc := hp rfl
    subst hc
    have hl0 : l = [] := List.length_eq_zero_iff.1 h0
    subst hl0
    obtain ⟨p, c, rfl⟩ := hown.slice
    exact ⟨p, c, w, run_append_owned_none (P := P) (w := w) 0 t ty 5 i 1 ht hi _ xs.length (xs.map bv) hown.1, by simpa using hown, Keeps.refl _ _, fun k e => .inl e⟩
  | some ad =>
    obtain ⟨v', w', hr, h2, h3, h4⟩ := run_append_sep (P := P) w t ty 5 i (.int .u8 0) 1 1 ht hi hz hsize hby rfl (by decide) v xs.length (xs.map bv) hown.1 ad l.length sc (l.map bv) (by simp) (fun j u hu => by
      have h0 : 0 < l.length := by
        have := (List.getElem?_eq_some_iff.1 hu).1; simp at this; omega
      obtain ⟨b, o, e, hr⟩ := hlr h0
      injection e with e; subst e
      rw [Addr.add_mid]; exact hr j u hu) (bv_one l) (by unfold maxLen; omega) (by omega)
    obtain ⟨p, c, rfl⟩ := ownsRow_slice h2
    refine ⟨p, c, w', hr, ⟨by simpa using h2, fun k e => ?_, Nat.le_trans hown.2.2 h3.size⟩, (Keeps.refl _ _).grown h3 (fun k e => .inl e), h4⟩
    rcases h4 k e with e | e
    · exact hown.2.1 k e
    · exact Nat.le_trans hown.2.2 e
/-- bytes of whatever source behind bytes of the call's own: one operation -/
theorem wp_append_bx {P : Program} {w : World} {o : Oper} {a : Act} {K : Act → World → Prop} {Q : Exit → Act → World → Prop} (s x : Operand) (t : TypeId)
    (ho : o.op = .call { callee := .builtin .append, args := #[s, x], argTypes := #[t, t] })
    (i : TypeInfo) (ht : P.underlying t = some (.slice 5)) (hi : P.info? 5 = some i) (hz : i.zero = some (.int .u8 0)) (hsize : i.size = 1) (hby : i.bytes = 1)
    (w0 : World) (v : Value) (xs : List UInt8) (hs : a.eval s = v) (hown : OwnB w0 w v xs) (sv : Value) (hx : a.eval x = sv) (l : List UInt8) (hl : BytesAt w sv l) (hsz : xs.length + l.length ≤ 70368744177664)
    (h : ∀ p c w', OwnB w0 w' (.slice p (xs.length + l.length) c) (xs ++ l) → Grown w v p (xs.length + l.length) c w' → K (a.put o.dst (.slice p (xs.length + l.length) c)) w') : Oper.wp P o a w K Q := by
  obtain ⟨p, c, w', hr, h1, h2⟩ := run_append_bx (P := P) w t o.type i ht hi hz hsize hby w0 v xs hown sv l hl hsz
  unfold Oper.wp execOp
  simp only [ho, resolve, invoke, builtin, Sem.run_bind, Sem.run_pure, Result.andThen_ok, List.map_toArray, List.map_cons, List.map_nil, hs, hx, hr]
  exact h p c w' h1 h2
theorem run_append_str {P : Program} (w : World) (t u ty : TypeId) (i : TypeInfo) (ht : P.underlying t = some (.slice 5)) (hu : P.underlying u = some .string) (hi : P.info? 5 = some i) (hz : i.zero = some (.int .u8 0)) (hsize : i.size = 1) (hby : i.bytes = 1)
    (w0 : World) (v : Value) (xs : List UInt8) (hown : OwnB w0 w v xs) (s : ByteArray) (hsz : xs.length + s.size ≤ 70368744177664) :
    ∃ p c w', (Builtin.append_ #[t, u] ty #[v, .string s]).run P w = .ok (.slice p (xs.length + s.size) c) w' ∧ OwnB w0 w' (.slice p (xs.length + s.size) c) (xs ++ s.data.toList) ∧ Keeps (fun k => v.ownBlock = some k) w w' := by
  have hb : w.ownsRow w0.heap.size 5 1 v xs.length (xs.map bv) := by
    refine ⟨hown.1.1, ?_⟩
    rcases hown.1.2 with ⟨rfl, h0⟩ | ⟨g, cap, cur, rfl, h1, h2⟩
    · exact .inl ⟨rfl, h0⟩
    · exact .inr ⟨g, cap, cur, rfl, hown.2.1 g rfl, h2⟩
  obtain ⟨v', w', hr, h2, h3, -⟩ := Lib.run_append_own_string (P := P) w w0.heap.size t u ty 5 i ht hu hi hz hsize hby v xs.length (xs.map bv) hb s (by unfold maxLen; omega) (by omega) hown.2.2
  obtain ⟨p, c, rfl⟩ := ownsRow_slice h2
  refine ⟨p, c, w', hr, ⟨⟨?_, ?_⟩, fun k e => ?_, Nat.le_trans hown.2.2 h3.size⟩, (Keeps.refl _ _).grown h3 (fun k e => .inl e)⟩
  · simp
  · have h4 := h2.2
    rw [strCells_bv, ← List.map_append] at h4
    rw [List.length_append, show s.data.toList.length = s.size by simp]
    rcases h4 with ⟨e, h0⟩ | ⟨g, cap, cur, e, h1, h5⟩
    · exact .inl ⟨e, h0⟩
    · exact .inr ⟨g, cap, cur, e, Nat.zero_le _, h5⟩
  · rcases h2.2 with ⟨e2, h0⟩ | ⟨g, cap, cur, e2, h1, h5⟩
    · rw [e2] at e; cases e
    · rw [e2] at e; simp only [Value.ownBlock, Option.some.injEq] at e; omega
theorem wp_append_str {P : Program} {w : World} {o : Oper} {a : Act} {K : Act → World → Prop} {Q : Exit → Act → World → Prop} (s x : Operand) (t u : TypeId)
    (ho : o.op = .call { callee := .builtin .append, args := #[s, x], argTypes := #[t, u] })
    (i : TypeInfo) (ht : P.underlying t = some (.slice 5)) (hu : P.underlying u = some .string) (hi : P.info? 5 = some i) (hz : i.zero = some (.int .u8 0)) (hsize : i.size = 1) (hby : i.bytes = 1)
    (w0 : World) (v : Value) (xs : List UInt8) (hs : a.eval s = v) (hown : OwnB w0 w v xs) (z : ByteArray) (hx : a.eval x = .string z) (hsz : xs.length + z.size ≤ 70368744177664)
    (h : ∀ p c w', OwnB w0 w' (.slice p (xs.length + z.size) c) (xs ++ z.data.toList) → Keeps (fun k => v.ownBlock = some k) w w' → K (a.put o.dst (.slice p (xs.length + z.size) c)) w') : Oper.wp P o a w K Q := by
  obtain ⟨p, c, w', hr, h1, h2⟩ := run_append_str (P := P) w t u o.type i ht hu hi hz hsize hby w0 v xs hown z hsz
  unfold Oper.wp execOp
  simp only [ho, resolve, invoke, builtin, Sem.run_bind, Sem.run_pure, Result.andThen_ok, List.map_toArray, List.map_cons, List.map_nil, hs, hx, hr]
  exact h p c w' h1 h2
theorem wpList_append_str {P : Program} {w : World} {ops : Array Oper} {rest : List Oper} {o : Oper} {a : Act} {Q : Exit → Act → World → Prop} (hgd : o.guard = none) (s x : Operand) (t u : TypeId)
    (ho : o.op = .call { callee := .builtin .append, args := #[s, x], argTypes := #[t, u] })
    (i : TypeInfo) (ht : P.underlying t = some (.slice 5)) (hu : P.underlying u = some .string) (hi : P.info? 5 = some i) (hz : i.zero = some (.int .u8 0)) (hsize : i.size = 1) (hby : i.bytes = 1)
    (w0 : World) (v : Value) (xs : List UInt8) (hs : a.eval s = v) (hown : OwnB w0 w v xs) (z : ByteArray) (hx : a.eval x = .string z) (hsz : xs.length + z.size ≤ 70368744177664)
    (h : ∀ p c w', Hid (OwnB w0 w' (.slice p (xs.length + z.size) c) (xs ++ z.data.toList)) → Hid (Keeps (fun k => v.ownBlock = some k) w w') → wpList P ops Q rest (a.put o.dst (.slice p (xs.length + z.size) c)) w') : wpList P ops Q (o :: rest) a w :=
  wpList_plain hgd fun K hK => wp_append_str s x t u ho i ht hu hi hz hsize hby w0 v xs hs hown z hx hsz (fun p c w' h1 h2 => hK _ _ (h p c w' (Lib.hid h1) (Lib.hid h2)))
/-- a line's block, and all that was there at the start -/
def BoxK (w : World) (g : Nat) (t : TypeId) (cs : List Value) (W : World) : Prop := BlkAt W g t cs ∧ Keeps (fun _ => False) w W
theorem BoxK.next {w W W' : World} {g : Nat} {t : TypeId} {cs : List Value} (h : BoxK w g t cs W) (k : Keeps (fun _ => False) W W') : BoxK w g t cs W' := ⟨h.1.keep k id, h.2.trans k⟩
theorem BoxK.app {w W W' : World} {g : Nat} {t : TypeId} {cs : List Value} (h : BoxK w g t cs W) (ht : t ≠ 5) {v : Value} {xs : List UInt8} (hO : OwnB w W v xs) (k : Keeps (fun k => v.ownBlock = some k) W W') : BoxK w g t cs W' :=
  ⟨h.1.keep k (hO.notBlk h.1 ht), h.2.trans' k (fun i e => .inr (hO.2.1 i e))⟩
theorem one_bytes (W : World) (x : List UInt8) {n : Nat} (hn : x.length = n) (hm : n ≤ 1000) : BytesAt (W.alloc (.cells (x.map bv).toArray 5)) (.slice (some ⟨W.heap.size, 0, none⟩) n n) x := by
  subst hn
  exact (OwnB.new W W (Nat.le_refl _) x rfl (by unfold maxLen; omega)).bytes
end Go.Proofs.YtdannodhlaaoiaaGreatDoor
/- The document's Put of a right configuration (gen_chg.py). -/
set_option linter.unusedVariables false
set_option linter.unusedSimpArgs false
namespace Go.Proofs.YtdannodhlaaoiaaGreatDoor
open Go.RowKit

def PutPost (x : List UInt8) (w : World) (e : Ending) (w' : World) : Prop :=
  ∃ p c, e = .returned (.slice p x.length c) ∧ OwnB w w' (.slice p x.length c) x ∧ Keeps (fun _ => False) w w'
theorem putAll_take {ls : List LineD} {k : Nat} {q : LineD} (hq : ls[k]? = some q) : putAll (ls.take (k + 1)) = putAll (ls.take k) ++ putLine q := by
  rw [List.take_add_one, hq]; exact putAll_snoc _ _
theorem head_byte {h : Int} (h0 : 0 ≤ h ∧ h ≤ 255) : Value.int .u8 h = bv (UInt8.ofNat h.toNat) := by
  have e : (((UInt8.ofNat h.toNat).toNat : Nat) : Int) = h := by simp; omega
  unfold bv; rw [e]
theorem len_byte {n : Nat} (h0 : n ≤ 255) : Value.int .u8 (n : Int) = bv (UInt8.ofNat n) := by
  have e : (UInt8.ofNat n).toNat = n := by simp; omega
  unfold bv; rw [e]
theorem u8_in {n : Int} (h : 0 ≤ n ∧ n ≤ 255) : IntKind.u8.wrap n = n := IntWalk.u8_in _ (by omega)

end Go.Proofs.YtdannodhlaaoiaaGreatDoor
/- conf.Put, walked. -/
set_option linter.unusedVariables false
set_option linter.unusedSimpArgs false
namespace Go.Proofs.YtdannodhlaaoiaaGreatDoor
open Go.RowKit

def PutRes (x : List UInt8) (z : Nat) (w : World) (e : Ending) (w' : World) : Prop :=
  ∃ p c, e = .returned (.tuple #[.slice p x.length c, .int .i64 z]) ∧ OwnB w w' (.slice p x.length c) x ∧ Keeps (fun _ => False) w w'
def putR (ls : List LineD) : List UInt8 × Nat := if rightC ls = true then (putAll ls, 0) else ([], 1)
def flatT (L : List ByteArray) : List UInt8 := L.flatMap (fun S => UInt8.ofNat S.size :: S.data.toList)
theorem flatT_take {L : List ByteArray} {j : Nat} {S : ByteArray} (h : L[j]? = some S) : flatT (L.take (j + 1)) = flatT (L.take j) ++ [UInt8.ofNat S.size] ++ S.data.toList := by
  rw [List.take_add_one, h]; unfold flatT; simp

set_option maxRecDepth 100000 in
set_option maxHeartbeats 4000000 in
theorem put_no (v : Value) (ls : List LineD) (w : World) (hv : Hid (RowsAt 4 lineVals w v ls)) (hl : ls.length ≤ 9223372036854775807) (hlt : Hid (LinesLt ls 9223372036854775807)) (hr : Hid (rightC ls = false)) :
    Calls Tryz.prog 8 #[v] w (PutRes [] 1 w) := by
  have hLn := Lib.hid hv.out.lines
  clear hv
  go_enter Tryz.func8, Tryz.ntmps8
  go_wp2_with fail
  refine (right_c _ ls false _ hLn hl hlt hr).mono ?_
  rintro e w2 ⟨rfl, k2⟩
  have k2' := Lib.hid k2
  clear k2
  go_wp2_with fail
  go_ret2
  exact ⟨none, 0, rfl, OwnB.nil _ _ k2'.out.size, k2'.out⟩

set_option maxRecDepth 100000 in
set_option maxHeartbeats 16000000 in
theorem put_c (v : Value) (ls : List LineD) (w : World) (hv : Hid (RowsAt 4 lineVals w v ls)) (hr : Hid (rightC ls = true)) :
    Calls Tryz.prog 8 #[v] w (PutRes (putAll ls) 0 w) := by
  have hlen := right_len hr.out
  have hlt := Lib.hid (right_lt hr.out 9223372036854775807 (by omega))
  have hsm := Lib.hid (right_small hr.out)
  have hpl := Lib.hid (fun k => putAll_len (ls := ls.take k) (fun q hq => line_small (right_line hr.out q (List.mem_of_mem_take hq))))
  have hsm2 := Lib.hid (fun q hq => line_small (right_line hr.out q hq))
  obtain ⟨i0, hi0, hz0, hz1, hz2⟩ := info_parts u8InfoAll
  obtain ⟨p, c, rfl⟩ := hv.out.slice
  have hLn := Lib.hid hv.out.lines
  go_enter Tryz.func8, Tryz.ntmps8
  go_wp2_with fail
  refine (right_c _ ls true _ hLn (by omega) hlt hr).mono ?_
  rintro e w2 ⟨rfl, k2⟩
  have k2' := Lib.hid k2
  clear k2 hLn hlt hr
  go_wp2_with fail
  go_loopw [14, 4] (fun iv ov wr => ∃ (k : Nat) (x : List UInt8) (pq : Option Addr) (d : Nat), k ≤ ls.length ∧ iv = .int .i64 k ∧ ov = .slice pq x.length d ∧ Hid (putAll (ls.take k) = x) ∧ Hid (OwnB w wr (.slice pq x.length d) x) ∧ Hid (Keeps (fun _ => False) w wr)) (fun iv _ _ => ls.length - (intOf iv).toNat)
  case atStart => exact ⟨0, [], none, 0, by omega, rfl, rfl, Lib.hid rfl, Lib.hid (OwnB.nil _ _ k2'.out.size), k2'⟩
  case round =>
    obtain ⟨k, x, pq, d, hk, rfl, rfl, hx, hO, hKr⟩ := hrel
    have hxl : x.length ≤ 20000 := by
      have h1 := hpl.out k
      rw [hx.out, List.length_take] at h1
      omega
    by_cases hlk : k < ls.length
    · obtain ⟨g, o, rfl, hrows⟩ := hv.out.open (by omega)
      obtain ⟨q, hq⟩ : ∃ q, ls[k]? = some q := ⟨_, List.getElem?_eq_getElem hlk⟩
      obtain ⟨z1, z2, z3⟩ := hsm2.out q (List.mem_of_getElem? hq)
      obtain ⟨z0, -⟩ := hsm.out q (List.mem_of_getElem? hq)
      obtain ⟨N, hN⟩ : ∃ N : ByteArray, N = ⟨q.name.toArray⟩ := ⟨_, rfl⟩
      obtain ⟨F, hF⟩ : ∃ N : ByteArray, N = ⟨q.leaf.toArray⟩ := ⟨_, rfl⟩
      obtain ⟨V, hV⟩ : ∃ N : ByteArray, N = ⟨q.value.toArray⟩ := ⟨_, rfl⟩
      have sN : N.size ≤ 100 := by rw [hN]; exact z1
      have sF : F.size ≤ 100 := by rw [hF]; exact z2
      have sV : V.size ≤ 100 := by rw [hV]; exact z3
      have hsT : Hid (∀ (j : Nat) (S : ByteArray), [N, F, V][j]? = some S → S.size ≤ 100) := Lib.hid (fun j S hS => by
        have hm := List.mem_of_getElem? hS
        simp only [List.mem_cons, List.not_mem_nil, or_false] at hm
        rcases hm with rfl | rfl | rfl <;> assumption)
      have hrw : Hid (wr.rangeAt g (o + k * 4) [.int .i64 q.head, .string N, .string F, .string V]) := Lib.hid (by rw [hN, hF, hV]; exact hKr.out.rangeAt (hrows k q hq) id)
      have hline : Hid (putLine q = [UInt8.ofNat q.head.toNat] ++ flatT [N, F, V]) := Lib.hid (by
        unfold putLine txtB flatT
        simp only [List.flatMap_cons, List.flatMap_nil]
        rw [show N.data.toList = q.name by rw [hN], show F.data.toList = q.leaf by rw [hF], show V.data.toList = q.value by rw [hV], show N.size = q.name.length by rw [hN]; rfl, show F.size = q.leaf.length by rw [hF]; rfl, show V.size = q.value.length by rw [hV]; rfl]
        simp)
      have hnext := Lib.hid (putAll_take hq)
      have hnextL := Lib.hid (hpl.out (k + 1))
      rw [hnext.out, hx.out, hline.out] at hnextL
      rw [hx.out, hline.out] at hnext
      have w0 : IntKind.u8.wrap q.head = q.head := u8_in z0
      have b0 := Lib.hid (head_byte z0)
      have hS0 : Hid (BoxK w wr.heap.size 50 [.int .i64 q.head, .string N, .string F, .string V] (wr.alloc (.cells #[.int .i64 q.head, .string N, .string F, .string V] 50))) := Lib.hid ⟨BlkAt.new _ _ _, hKr.out.alloc _⟩
      have hO0 := Lib.hid (hO.out.keep ((Keeps.refl (fun _ => False) wr).alloc (.cells #[.int .i64 q.head, .string N, .string F, .string V] 50)) (fun _ _ f => f))
      have m1 : (0 : Int) ≤ (k : Int) := by omega
      have m2 : (k : Int) < (ls.length : Int) := by omega
      clear hrows hN hF hV hq z0 z1 z2 z3 hx hline hO sN sF sV
      go_upto_region 7 with (first | ((with_reducible refine at_slot 17 ?_); refine wpList_load_mid rfl 50 (.tmp 16) rfl g (o + k * 4) rfl [.int .i64 q.head, .string N, .string F, .string V] _ hrw.out Tryz.underlying50 rfl lineInfo ?_) | ((with_reducible refine at_store 6 ?_); refine wpList_store_new rfl 50 (.tmp 6) (.tmp 17) rfl _ #[.int .i64 q.head, .string N, .string F, .string V] rfl rfl lineInfo rfl (line_one _ _ _ _) ?_))
      generalize hgx : wr.heap.size = gx at hS0 ⊢
      generalize hWx : wr.alloc (.cells #[.int .i64 q.head, .string N, .string F, .string V] 50) = Wx at hS0 hO0 ⊢
      clear hgx hWx hrw hKr
      have c0 := hS0.out.1.cell 0 _ rfl
      have hBy := Lib.hid (one_bytes Wx [UInt8.ofNat q.head.toNat] (n := 1) rfl (by omega))
      have hOb := Lib.hid (hO0.out.keep ((Keeps.refl (fun _ => False) Wx).alloc (.cells (List.map bv [UInt8.ofNat q.head.toNat]).toArray 5)) (fun _ _ f => f))
      have hSb := Lib.hid (hS0.out.next ((Keeps.refl (fun _ => False) Wx).alloc (.cells (List.map bv [UInt8.ofNat q.head.toNat]).toArray 5)))
      simp only [List.map_cons, List.map_nil, ← b0.out] at hBy hOb hSb
      clear hO0
      go_upto_region 8 with ((with_reducible refine at_slot 23 ?_); refine wpList_append_b rfl (.tmp 18) (.tmp 22) 31 rfl i0 Tryz.underlying31 hi0 hz0 hz1 hz2 w _ x rfl hOb.out _ rfl [UInt8.ofNat q.head.toNat] hBy.out (by simp; omega) ?_; intro p1 cp1 W1 hOc hGc)
      have hS1 := Lib.hid (hSb.out.app (by decide) hOb.out hGc.out.k)
      obtain ⟨x1, hx1⟩ : ∃ y, y = x ++ [UInt8.ofNat q.head.toNat] := ⟨_, rfl⟩
      have hg1 : x.length + 1 = x1.length := by rw [hx1]; simp
      have hg2 : x.length + [UInt8.ofNat q.head.toNat].length = x1.length := by rw [hx1]; simp
      have hl1 : x1.length ≤ 20001 := by omega
      rw [← hx1, hg2] at hOc
      rw [hg1]
      rw [← List.append_assoc, ← hx1] at hnext hnextL
      clear hS0 c0 hBy hOb hSb hx1 hg1 hg2 hGc b0 w0
      have c1 := hS1.out.1.cell 1 _ rfl
      have c2 := hS1.out.1.cell 2 _ rfl
      have c3 := hS1.out.1.cell 3 _ rfl
      have hT0 : Hid (BoxK w W1.heap.size 9 [.string N, .string F, .string V] (W1.alloc (.cells #[.string N, .string F, .string V] 9))) := Lib.hid ⟨BlkAt.new _ _ _, hS1.out.2.alloc _⟩
      have hO2 := Lib.hid (hOc.out.keep ((Keeps.refl (fun _ => False) W1).alloc (.cells #[.string N, .string F, .string V] 9)) (fun _ _ f => f))
      clear hOc hS1
      go_wp2_with fail
      clear c1 c2 c3
      generalize W1.alloc (.cells #[.string N, .string F, .string V] 9) = U at hT0 hO2 ⊢
      generalize W1.heap.size = gt at hT0 ⊢
      go_loopw [32, 4] (fun iv ov wr => ∃ (j : Nat) (y : List UInt8) (pq : Option Addr) (d : Nat), j ≤ 3 ∧ iv = .int .i64 j ∧ ov = .slice pq y.length d ∧ y.length ≤ 20001 + j * 101 ∧ Hid (y = x1 ++ flatT ([N, F, V].take j)) ∧ Hid (OwnB w wr (.slice pq y.length d) y) ∧ Hid (BoxK w gt 9 [.string N, .string F, .string V] wr)) (fun iv _ _ => 3 - (intOf iv).toNat)
      case atStart => exact ⟨0, x1, p1, cp1, by omega, rfl, rfl, by omega, Lib.hid (by simp [flatT]), hO2, hT0⟩
      case round =>
        obtain ⟨j, y, pq2, d2, hj, rfl, rfl, hyl, hy, hOj, hTj⟩ := hrel
        by_cases hj3 : j < 3
        · obtain ⟨S, hS⟩ : ∃ S, [N, F, V][j]? = some S := ⟨_, List.getElem?_eq_getElem hj3⟩
          have sS := hsT.out j S hS
          have hS' : ([.string N, .string F, .string V] : List Value)[j]? = some (.string S) := by
            have := congrArg (Option.map Value.string) hS
            rw [← List.getElem?_map] at this
            exact this
          have cj := hTj.out.1.cell j _ hS'
          have w1 : IntKind.u8.wrap (S.size : Int) = (S.size : Int) := u8_in (by omega)
          have b1 := Lib.hid (len_byte (n := S.size) (by omega))
          have hnx := Lib.hid (flatT_take hS)
          have hBy := Lib.hid (one_bytes wr [UInt8.ofNat S.size] (n := 1) rfl (by omega))
          have hOb := Lib.hid (hOj.out.keep ((Keeps.refl (fun _ => False) wr).alloc (.cells (List.map bv [UInt8.ofNat S.size]).toArray 5)) (fun _ _ f => f))
          have hTb := Lib.hid (hTj.out.next ((Keeps.refl (fun _ => False) wr).alloc (.cells (List.map bv [UInt8.ofNat S.size]).toArray 5)))
          simp only [List.map_cons, List.map_nil, ← b1.out] at hBy hOb hTb
          have j1 : (0 : Int) ≤ (j : Int) := by omega
          have j2 : (j : Int) < 3 := by omega
          clear hS hS' hOj hTj
          go_upto_region 12 with ((with_reducible refine at_slot 41 ?_); refine wpList_append_b rfl (.tmp 36) (.tmp 40) 31 rfl i0 Tryz.underlying31 hi0 hz0 hz1 hz2 w _ y rfl hOb.out _ rfl [UInt8.ofNat S.size] hBy.out (by simp; omega) ?_; intro p3 c3 W3 hOc hGc)
          have hTc := Lib.hid (hTb.out.app (by decide) hOb.out hGc.out.k)
          clear hTb hOb hBy hGc cj w1 b1
          go_wp2_with ((with_reducible refine at_slot 44 ?_); refine wpList_append_str rfl (.tmp 42) (.tmp 43) 31 9 rfl i0 Tryz.underlying31 Tryz.underlying9 hi0 hz0 hz1 hz2 w _ (y ++ [UInt8.ofNat S.size]) rfl hOc.out S rfl (by simp; omega) ?_; intro p4 c4 W4 hOd hKd)
          have hTd := Lib.hid (hTc.out.app (by decide) hOc.out hKd.out)
          obtain ⟨y2, hy2⟩ : ∃ z, z = y ++ [UInt8.ofNat S.size] ++ S.data.toList := ⟨_, rfl⟩
          have hg1 : y.length + 1 + S.size = y2.length := by rw [hy2]; simp; omega
          have hg2 : (y ++ [UInt8.ofNat S.size]).length + S.size = y2.length := by rw [hy2]; simp; omega
          have hOe := hOd.out
          rw [← hy2, hg2] at hOe
          first | rw [hg1] | rw [hg2]
          have hyy : Hid (y2 = x1 ++ flatT ([N, F, V].take (j + 1))) := Lib.hid (by rw [hnx.out, hy2, hy.out]; simp)
          exact ⟨⟨j + 1, y2, p4, c4, by omega, by go_num, rfl, by omega, hyy, Lib.hid hOe, hTd⟩, by simp [intOf]; omega⟩
        · obtain rfl : j = 3 := by omega
          have hy2 := Lib.hid (show y = x1 ++ flatT [N, F, V] from hy.out)
          rw [← hy2.out] at hnext hnextL
          have hkk := Lib.hid hTj.out.2
          clear hTj hy hy2
          go_wp2_with fail
          exact ⟨⟨k + 1, y, pq2, d2, by omega, by go_num, rfl, hnext, hOj, hkk⟩, by simp [intOf]; omega⟩
    · obtain rfl : k = ls.length := by omega
      have hx2 : x = putAll ls := by rw [← hx.out, List.take_length]
      have hx3 := Lib.hid hx2
      clear hx hx2
      go_wp2_with fail
      go_ret2
      rw [← hx3.out]
      exact ⟨_, _, rfl, hO.out, hKr.out⟩

theorem put_any (v : Value) (ls : List LineD) (w : World) (hv : Hid (RowsAt 4 lineVals w v ls)) (hl : ls.length ≤ 9223372036854775807) (hlt : Hid (LinesLt ls 9223372036854775807)) :
    Calls Tryz.prog 8 #[v] w (PutRes (putR ls).1 (putR ls).2 w) := by
  unfold putR
  cases hz : rightC ls with
  | true => rw [if_pos rfl]; exact put_c v ls w hv (Lib.hid hz)
  | false => rw [if_neg (by simp)]; exact put_no v ls w hv hl hlt (Lib.hid hz)
end Go.Proofs.YtdannodhlaaoiaaGreatDoor
