/- JournalActs: of no journal; what the law's acts make, plain. -/
import Derived.Test.YtcmpbablmofofaaKL
import Derived.Test.YtcmpbablmofofaaKP
set_option linter.unusedVariables false
set_option linter.unusedSimpArgs false
namespace Go.Proofs.Ytcmpbablmofofaa
open Go.RowKit

theorem none2_any (w : World) : Calls Try.prog 29 #[] w fun e w' => e = .returned (.pointer none) ∧ w = w' := by
  go_enter Try.func29, Try.ntmps29
  go_wp2
  go_ret
  exact ⟨rfl, rfl⟩
theorem begin_nil (w : World) : Calls Try.prog 26 #[.pointer none] w fun e w' => e = .returned (.tuple #[.pointer none, .int .i64 1]) ∧ w = w' := by
  go_enter Try.func26, Try.ntmps26
  go_wp2_with fail
  refine (size_nil _).mono ?_
  rintro e w1 ⟨rfl, rfl⟩
  go_wp2_with fail
  go_ret2
  exact ⟨rfl, rfl⟩
theorem open_nil (w : World) : Calls Try.prog 27 #[.pointer none] w fun e w' => e = .returned (.tuple #[.pointer none, .int .i64 1]) ∧ w = w' := by
  go_enter Try.func27, Try.ntmps27
  go_wp2_with fail
  refine (size_nil _).mono ?_
  rintro e w1 ⟨rfl, rfl⟩
  go_wp2_with fail
  go_ret2
  exact ⟨rfl, rfl⟩
theorem append_nil (v : Value) (w : World) : Calls Try.prog 30 #[.pointer none, v] w fun e w' => e = .returned (.int .i64 1) ∧ w = w' := by
  go_enter Try.func30, Try.ntmps30
  go_wp2_with fail
  refine (jstate_nil _).mono ?_
  rintro e w1 ⟨rfl, rfl⟩
  go_wp2_with fail
  go_ret
  exact ⟨rfl, rfl⟩
theorem compact_nil (v : Value) (w : World) : Calls Try.prog 31 #[.pointer none, v] w fun e w' => e = .returned (.int .i64 1) ∧ Keeps (fun _ => False) w w' := by
  go_enter Try.func31, Try.ntmps31
  go_wp2_with fail
  refine (jstate_nil _).mono ?_
  rintro e w1 ⟨rfl, rfl⟩
  go_wp2_with fail
  go_ret
  exact ⟨rfl, by repeat (first | exact Keeps.refl _ _ | refine Keeps.alloc ?_ _ | refine Keeps.drew ?_)⟩
section
variable [Inhabited BaseN]
/-- a disk that is too small -/
theorem open_small (w : World) (b bs n : Nat) (h4 : n < 4) (hD : Hid (DkAt (fresh b bs n) w)) : Calls Try.prog 27 #[.pointer (some ⟨b, 0, none⟩)] w fun x w' => x = .returned (.tuple #[.pointer none, .int .i64 1]) ∧ DkAt (fresh b bs n) w' ∧ KeepD w w' := by
  refine (open_any (fresh b bs n) w hD).mono ?_
  intro x w' ⟨hk, hx⟩
  have e : openE (fresh b bs n) = 1 := by unfold openE; exact if_pos h4
  rw [e, if_neg (by show ¬ (1 : Int) = 0; decide)] at hx
  exact ⟨hx.1, hx.2, hk⟩
theorem begin_small (w : World) (b bs n : Nat) (h4 : n < 4) (hD : Hid (DkAt (fresh b bs n) w)) : Calls Try.prog 26 #[.pointer (some ⟨b, 0, none⟩)] w fun x w' => x = .returned (.tuple #[.pointer none, .int .i64 1]) ∧ KeepD w w' := by
  refine (begin_any (fresh b bs n) w hD).mono ?_
  intro x w' ⟨hk, hx⟩
  have e : begR (fresh b bs n) = (1, fresh b bs n) := by unfold begR; exact if_pos h4
  rw [e, if_neg (by show ¬ (1 : Int) = 0; decide)] at hx
  exact ⟨hx.1, hk⟩
theorem open_new (w : World) (b bs n : Nat) (h4 : 4 ≤ n) (hD : Hid (DkAt (fresh b bs n) w)) : Calls Try.prog 27 #[.pointer (some ⟨b, 0, none⟩)] w fun x w' => x = .returned (.tuple #[.pointer none, .int .i64 3]) ∧ DkAt (fresh b bs n) w' ∧ KeepD w w' := by
  refine (open_any (fresh b bs n) w hD).mono ?_
  intro x w' ⟨hk, hx⟩
  rw [fresh_open b bs n h4, if_neg (by show ¬ (3 : Int) = 0; decide)] at hx
  exact ⟨hx.1, hx.2, hk⟩
end
theorem wpList_append_rows {α : Type} {sz : Nat} {cv : α → List Value} {P : Program} {w : World} {ops : Array Oper} {rest : List Oper} {o : Oper} {a : Act} {Q : Exit → Act → World → Prop} (hgd : o.guard = none) (s x : Operand) (t e : TypeId)
    (ho : o.op = .call { callee := .builtin .append, args := #[s, x], argTypes := #[t, t] })
    (i : TypeInfo) (z : Value) (by_ : Nat) (ht : P.underlying t = some (.slice e)) (hi : P.info? e = some i) (hz : i.zero = some z) (hsize : i.size = sz) (hby : i.bytes = by_) (hzs : z.cells.size = sz) (hsz0 : 0 < sz) (hby1 : by_ ≤ 100000)
    (hcv : ∀ x, (cv x).length = sz) (h1 : ∀ (x : α), ∀ u ∈ cv x, u.oneCell' = true) (w0 : World) (v : Value) (xs : List α) (hs : a.eval s = v) (hown : OwnR e sz cv w0 w v xs) (sv : Value) (hx : a.eval x = sv) (ys : List α) (hl : RowsAt sz cv w sv ys) (hsz : xs.length + ys.length ≤ 1000000000)
    (h : ∀ p c w', Hid (OwnR e sz cv w0 w' (.slice p (xs.length + ys.length) c) (xs ++ ys)) → Hid (Grown w v p (xs.length + ys.length) c w') → wpList P ops Q rest (a.put o.dst (.slice p (xs.length + ys.length) c)) w') : wpList P ops Q (o :: rest) a w :=
  wpList_plain hgd fun _ hK => wp_append_rows s x t e ho i z by_ ht hi hz hsize hby hzs hsz0 hby1 hcv h1 w0 v xs hs hown sv hx ys hl hsz (fun p c w' h1 h2 => hK _ _ (h p c w' (Lib.hid h1) (Lib.hid h2)))

theorem strs_empty (w0 w : World) (h : w0.heap.size ≤ w.heap.size) : OwnR 9 1 sv1 w0 (w.alloc (.cells #[] 9)) (.slice (some ⟨w.heap.size, 0, none⟩) 0 0) ([] : List (List UInt8)) := by
  refine ⟨⟨rfl, .inr ⟨w.heap.size, 0, #[], rfl, Nat.zero_le _, heap_alloc_last w _, Nat.le_refl _, by unfold maxLen; omega, by simp, rfl⟩⟩, fun k e => ?_, by simp; omega⟩
  simp only [Value.ownBlock, Option.some.injEq] at e
  omega
/-- the act's own copy -/
structure AOwn (w : World) (ab : Nat) (a : JAct) : Prop where
  blk : w.heap[ab]? = some (.cells a.cells.toArray 66)
theorem AOwn.keepF {F : Nat → Prop} {w w' : World} {ab : Nat} {a : JAct} (h : AOwn w ab a) (k : Keeps F w w') (hF : ¬ F ab) : AOwn w' ab a := ⟨by rw [k.block ab (lt_of_block h.blk) hF]; exact h.blk⟩
theorem AOwn.keep {w w' : World} {ab : Nat} {a : JAct} (h : AOwn w ab a) (k : Keeps (fun _ => False) w w') : AOwn w' ab a := h.keepF k id
theorem AOwn.c0 {w : World} {ab : Nat} {a : JAct} (h : AOwn w ab a) : w.cell? ⟨ab, 0, none⟩ = some (.int .i64 a.what) := by unfold World.cell?; simp only [h.blk]; rfl
theorem AOwn.c1 {w : World} {ab : Nat} {a : JAct} (h : AOwn w ab a) : w.cell? ⟨ab, 1, none⟩ = some (.int .i64 a.size) := by unfold World.cell?; simp only [h.blk]; rfl
theorem AOwn.c3 {w : World} {ab : Nat} {a : JAct} (h : AOwn w ab a) : w.cell? ⟨ab, 3, none⟩ = some (.int .i64 a.mask) := by unfold World.cell?; simp only [h.blk]; rfl
theorem AOwn.c4 {w : World} {ab : Nat} {a : JAct} (h : AOwn w ab a) : w.cell? ⟨ab, 4, none⟩ = some a.kv := by unfold World.cell?; simp only [h.blk]; rfl
theorem AOwn.range {w : World} {ab : Nat} {a : JAct} (h : AOwn w ab a) : w.rangeAt ab 0 a.cells := fun j u hu => by
  unfold World.cell?
  simp only [h.blk]
  rw [Nat.zero_add]
  simpa using hu
theorem wpList_store_new_named {P : Program} {ops : Array Oper} {rest : List Oper} {op : Oper} {a : Act} {w : World} {Q : Exit → Act → World → Prop} (hgd : op.guard = none) (ty : TypeId) (x y : Operand) (ho : op.op = .store ty x y)
    (c c' : Array Value) (hx : a.eval x = .pointer (some ⟨w.heap.size, 0, none⟩)) (hy : a.eval y = .agg c')
    (hi : (P.info? ty).map (·.size) = some c'.size) (hs : c.size = c'.size) (h1 : c'.all (·.oneCell') = true)
    (h : ∀ w1, Hid (w1 = w.alloc (.cells c' ty)) → wpList P ops Q rest (a.put op.dst undef) w1) : wpList P ops Q (op :: rest) a (w.alloc (.cells c ty)) :=
  wpList_store_new hgd ty x y ho c c' hx hy hi hs h1 (h _ (Lib.hid rfl))
theorem jact_one (what ai B asz : Int) (pk : Option Addr) (n ck : Nat) : (#[.int .i64 what, .int .i64 ai, .int .u8 B, .int .i64 asz, .slice pk n ck] : Array Value).all (·.oneCell') = true := by simp; exact ⟨rfl, rfl, rfl, rfl, rfl⟩
theorem jactInfo : (Try.prog.info? 66).map (·.size) = some 5 := by kernel_rfl
section
variable [Inhabited BaseN]
theorem AOwn.keepJ {w w' : World} {ab : Nat} {a : JAct} (h : AOwn w ab a) (k : KeepJ w w') : AOwn w' ab a := h.keepF k (fun ⟨_, cs, t, r, a1, a2⟩ => by
  rw [h.blk] at a1
  injection a1 with a1
  injection a1 with _ a1 _
  subst a1
  revert a2; decide)
theorem strs_keepJ {w0 w w' : World} {v : Value} {xs : List (List UInt8)} (h : OwnR 9 1 sv1 w0 w v xs) (k : KeepJ w w') : OwnR 9 1 sv1 w0 w' v xs := h.keep k (fun i e ⟨_, cs, t, r, a1, a2⟩ => by
  obtain ⟨cs2, r2, a3⟩ := h.ty e
  rw [a1] at a3
  injection a3 with a3
  injection a3 with _ a3 _
  subst a3
  revert a2; decide)
/-- a journal that stands for these entries -/
def AJ (w : World) (jb b n K : Nat) (L : List (List UInt8)) : Prop := ∃ w0 gen half ev D, JS w0 w jb n gen half ev L D ∧ gen ≤ K ∧ D.b = b
theorem AJ.keep {w w' : World} {jb b n K : Nat} {L : List (List UInt8)} (h : AJ w jb b n K L) (k : Keeps (fun _ => False) w w') : AJ w' jb b n K L := by
  obtain ⟨w0, gen, half, ev, D, h1, h2⟩ := h
  exact ⟨w0, gen, half, ev, D, h1.keep k, h2⟩
theorem AJ.mono {w : World} {jb b n K K' : Nat} {L : List (List UInt8)} (h : AJ w jb b n K L) (hk : K ≤ K') : AJ w jb b n K' L := by
  obtain ⟨w0, gen, half, ev, D, h1, h2, h3⟩ := h
  exact ⟨w0, gen, half, ev, D, h1, Nat.le_trans h2 hk, h3⟩
theorem AJ.right {w : World} {jb b n K : Nat} {L : List (List UInt8)} (h : AJ w jb b n K L) : L.all rightB = true ∧ usedOf L ≤ hz n := by
  obtain ⟨w0, gen, half, ev, D, h1, h2, h3⟩ := h
  exact ⟨List.all_eq_true.2 (fun l hl => decide_eq_true (h1.jd.lens l hl)), h1.jd.used⟩
/-- what an act leaves ahead of the question what it should have told -/
def SwP (w : World) (jb b n K : Nat) (L next : List (List UInt8)) (err : Int) : Prop :=
  (err = 0 ∧ next.all rightB = true ∧ usedOf next ≤ hz n ∧ AJ w jb b n K next) ∨
  (err = 1 ∧ next.all rightB = false ∧ AJ w jb b n K L) ∨
  (err = 5 ∧ next.all rightB = true ∧ hz n < usedOf next ∧ AJ w jb b n K L) ∨
  (err = 2 ∧ next.all rightB = true ∧ usedOf next ≤ hz n ∧ ∃ D, D.b = b ∧ D.n = n ∧ DkAt D w ∧ ∀ kept, Quiet (D.crash kept) ∧ ∃ gen half L', (L' = L ∨ L' = next) ∧ JD (D.crash kept).la n gen half L' ∧ gen ≤ K)
theorem OutJ.sw {w0 w : World} {jb n gen half gen' half' : Nat} {ev : Value} {L L' : List (List UInt8)} {D D' : Dk} {ok fits : Prop} {c : Int} (h : OutJ w0 w jb n gen half gen' half' ev L L' D D' ok fits c) {b K : Nat} (hb : D.b = b) (hok : ok ↔ L'.all rightB = true) (hf : fits ↔ usedOf L' ≤ hz n) (g1 : gen ≤ K) (g2 : gen' ≤ K) : SwP w jb b n K L L' c := by
  obtain ⟨h0, h⟩ := h
  rcases h with ⟨h1, h2, h3, h4⟩ | ⟨h1, h2, h3, h4, h5⟩ | ⟨h1, h2, h3, h4, h5⟩ | ⟨h1, h2, h3, h4, h5, h6, h7⟩
  · exact .inr (.inl ⟨h1, by rw [hok] at h2; simpa using h2, w0, gen, half, ev, D', h4, g1, by rw [h0, hb]⟩)
  · exact .inr (.inr (.inl ⟨h1, hok.1 h2, by rw [hf] at h3; omega, w0, gen, half, ev, D', h5, g1, by rw [h0, hb]⟩))
  · exact .inl ⟨h1, hok.1 h2, hf.1 h3, w0, gen', half', ev, D', h5, g2, by rw [h0, hb]⟩
  · refine .inr (.inr (.inr ⟨h1, hok.1 h2, hf.1 h3, D', by rw [h0, hb], h5, h6, fun kept => ⟨(h7 kept).1, ?_⟩⟩))
    rcases (h7 kept).2.2 with h | h
    · exact ⟨gen, half, L, .inl rfl, h, g1⟩
    · exact ⟨gen', half', L', .inr rfl, h, g2⟩
theorem append_aj (w : World) (jb b n K : Nat) (L : List (List UInt8)) (v : Value) (e : List UInt8) (h : Hid (AJ w jb b n K L)) (hv : Hid (BytesAt w v e)) (he : e.length ≤ 1000000) (hvd : Hid (∀ k, v.ownBlock = some k → ¬ DTy w k)) :
    Calls Try.prog 30 #[.pointer (some ⟨jb, 0, none⟩), v] w fun x w' => ∃ c, x = .returned (.int .i64 c) ∧ KeepJ w w' ∧ SwP w' jb b n K L (L ++ [e]) c := by
  obtain ⟨hr1, hr2⟩ := h.out.right
  obtain ⟨w0, gen, half, ev, D, h1, h2, h3⟩ := h.out
  refine (append_js w0 w jb n gen half ev L D v e (Lib.hid h1) hv he hvd).mono ?_
  rintro x w' ⟨c, ev', D', rfl, hk, -, ho⟩
  refine ⟨c, rfl, hk, ho.sw h3 ?_ ?_ h2 h2⟩
  · rw [List.all_append, hr1, Bool.true_and, List.all_cons, List.all_nil, Bool.and_true]; exact Iff.rfl
  · rw [usedOf_snoc]
end
theorem allow_right (L : List (List UInt8)) : L.all allowedB = L.all rightB := rfl
section
variable [Inhabited BaseN]
theorem compact_aj (w : World) (jb b n K : Nat) (L0 : List (List UInt8)) (v : Value) (L : List (List UInt8)) (h : Hid (AJ w jb b n K L0)) (hv : Hid (EntsT w v L)) (hl : Hid (∀ l ∈ L, l.length ≤ 1000000)) (hL : L.length ≤ 100000) (hK : K ≤ 1000) :
    Calls Try.prog 31 #[.pointer (some ⟨jb, 0, none⟩), v] w fun x w' => ∃ c, x = .returned (.int .i64 c) ∧ KeepJ w w' ∧ SwP w' jb b n (K + 1) L0 L c := by
  obtain ⟨w0, gen, half, ev, D, h1, h2, h3⟩ := h.out
  refine (compact_js w0 w jb n gen half ev L0 D v L (Lib.hid h1) hv hl hL (by omega)).mono ?_
  rintro x w' ⟨c, ev', D', rfl, hk, -, ho, -⟩
  exact ⟨c, rfl, hk, ho.sw h3 (by rw [allow_right]) Iff.rfl (by omega) (by omega)⟩
theorem SwP.mono {w : World} {jb b n K K' : Nat} {L next : List (List UInt8)} {err : Int} (h : SwP w jb b n K L next err) (hk : K ≤ K') : SwP w jb b n K' L next err := by
  rcases h with ⟨h1, h2, h3, h4⟩ | ⟨h1, h2, h3⟩ | ⟨h1, h2, h3, h4⟩ | ⟨h1, h2, h3, D, h4, h5, h6, h7⟩
  · exact .inl ⟨h1, h2, h3, h4.mono hk⟩
  · exact .inr (.inl ⟨h1, h2, h3.mono hk⟩)
  · exact .inr (.inr (.inl ⟨h1, h2, h3, h4.mono hk⟩))
  · refine .inr (.inr (.inr ⟨h1, h2, h3, D, h4, h5, h6, fun kept => ⟨(h7 kept).1, ?_⟩⟩))
    obtain ⟨g, hf, L', a, b2, c⟩ := (h7 kept).2
    exact ⟨g, hf, L', a, b2, Nat.le_trans c hk⟩
theorem SwP.keep {w w' : World} {jb b n K : Nat} {L next : List (List UInt8)} {err : Int} (h : SwP w jb b n K L next err) (k : Keeps (fun _ => False) w w') : SwP w' jb b n K L next err := by
  rcases h with ⟨h1, h2, h3, h4⟩ | ⟨h1, h2, h3⟩ | ⟨h1, h2, h3, h4⟩ | ⟨h1, h2, h3, D, h4, h5, h6, h7⟩
  · exact .inl ⟨h1, h2, h3, h4.keep k⟩
  · exact .inr (.inl ⟨h1, h2, h3.keep k⟩)
  · exact .inr (.inr (.inl ⟨h1, h2, h3, h4.keep k⟩))
  · exact .inr (.inr (.inr ⟨h1, h2, h3, D, h4, h5, h6.keep k, h7⟩))
/-- power that goes now -/
theorem AJ.off {w : World} {jb b n K : Nat} {L : List (List UInt8)} (h : AJ w jb b n K L) : SwP w jb b n K L L 2 := by
  obtain ⟨hr1, hr2⟩ := h.right
  obtain ⟨w0, gen, half, ev, D, h1, h2, h3⟩ := h
  refine .inr (.inr (.inr ⟨rfl, hr1, hr2, D, h3, h1.n, h1.j.dk, fun kept => ⟨crash_quiet _ _, gen, half, L, .inl rfl, ?_, h2⟩⟩))
  have e : (D.crash kept).la = D.la := by
    funext i
    show D.settled (fun k => kept.getD k false) i = _
    unfold Dk.settled
    rw [h1.q.ord, h1.q.st]
    split <;> rfl
  rw [e]; exact h1.jd
theorem open_aj (w : World) (jb b n K : Nat) (L : List (List UInt8)) (h : Hid (AJ w jb b n K L)) (hb : base0 ≤ w.heap.size) :
    Calls Try.prog 27 #[.pointer (some ⟨b, 0, none⟩)] w fun x w' => KeepD w w' ∧ ∃ mb, x = .returned (.tuple #[.pointer (some ⟨mb, 0, none⟩), .int .i64 0]) ∧ AJ w' mb b n K L := by
  obtain ⟨w0, gen, half, ev, D, h1, h2, h3⟩ := h.out
  have ho := open_js w n gen half L D hb (Lib.hid h1.j.dk) (Lib.hid h1.q) (Lib.hid h1.jd) (Lib.hid h1.n)
  rw [h3] at ho
  refine ho.mono ?_
  rintro x w' ⟨hk, mb, ev', rfl, -, hJ⟩
  exact ⟨hk, mb, rfl, w, gen, half, ev', D, hJ, h2, h3⟩
theorem arm_aj (w : World) (jb b n K : Nat) (L : List (List UInt8)) (s : Nat) (hs : s ≤ 1000) (h : Hid (AJ w jb b n K L)) :
    Calls Try.prog 10 #[.pointer (some ⟨b, 0, none⟩), .int .i64 s] w fun e w' => e = .returned (.tuple #[]) ∧ AJ w' jb b n K L ∧ KeepD w w' := by
  obtain ⟨w0, gen, half, ev, D, h1, h2, h3⟩ := h.out
  have ha := dk_arm D w s h1.j.dk (by omega) (by omega)
  rw [h3] at ha
  refine ha.mono ?_
  rintro e w' ⟨rfl, hD, hk⟩
  exact ⟨rfl, ⟨w0, gen, half, ev, _, h1.arm s (by rw [h3]; exact hD) hk, h2, h3⟩, hk⟩
theorem all_aj (w : World) (jb b n K : Nat) (L : List (List UInt8)) (h : Hid (AJ w jb b n K L)) : Calls Try.prog 32 #[.pointer (some ⟨jb, 0, none⟩)] w (EntsRes L w) := by
  obtain ⟨w0, gen, half, ev, D, h1, h2, h3⟩ := h.out
  exact all_js w0 w jb n gen half ev L D (Lib.hid h1)
theorem free_aj (w : World) (jb b n K : Nat) (L : List (List UInt8)) (h : Hid (AJ w jb b n K L)) : Calls Try.prog 33 #[.pointer (some ⟨jb, 0, none⟩)] w fun e w' => e = .returned (.int .i64 (hz n - usedOf L : Nat)) ∧ w.drew = w' := by
  obtain ⟨w0, gen, half, ev, D, h1, h2, h3⟩ := h.out
  exact free_js w0 w jb n gen half ev L D (Lib.hid h1)
end
end Go.Proofs.Ytcmpbablmofofaa
