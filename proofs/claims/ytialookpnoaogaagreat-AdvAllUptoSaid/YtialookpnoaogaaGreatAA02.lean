/- Sums: RFC 1071's and Fletcher's, plain. -/
import Derived.Test.YtialookpnoaogaaGreatAA01
import Derived.Deep.RegionHeld3
import Derived.Deep.DeepCutAuto
import Derived.Deep.MidRow
set_option linter.unusedVariables false
set_option linter.unusedSimpArgs false
namespace Go.Proofs.YtialookpnoaogaaGreat

/-- of 65535 the rest, 65535 in place of 0, but 0 of 0 -/
def cnorm (s : Nat) : Nat := if s = 0 then 0 else (s - 1) % 65535 + 1
theorem cnorm_le (s : Nat) : cnorm s ≤ 65535 := by unfold cnorm; split <;> omega
theorem cnorm_small {s : Nat} (h : s ≤ 65535) : cnorm s = s := by unfold cnorm; split <;> omega
theorem cnorm_fold {s : Nat} (h : 65536 ≤ s) : cnorm (s % 65536 + s / 65536) = cnorm s := by unfold cnorm; split <;> split <;> omega
theorem cnorm_add (a x : Nat) : cnorm (cnorm a + x) = cnorm (a + x) := by
  unfold cnorm; split
  · subst_vars; simp
  · split <;> split <;> omega
/-- by bytes: whether the next one counts 256 times -/
def isum : Bool → List UInt8 → Nat
  | _, [] => 0
  | true, c :: l => c.toNat * 256 + isum false l
  | false, c :: l => c.toNat + isum true l
def par (n : Nat) : Bool := decide (n % 2 = 0)
theorem par_succ (n : Nat) : par (n + 1) = !par n := by unfold par; rw [← decide_not, decide_eq_decide]; omega
theorem isum_snoc (l : List UInt8) : ∀ (b : Bool) (c : UInt8), isum b (l ++ [c]) = isum b l + (if (if par l.length then b else !b) then c.toNat * 256 else c.toNat) := by
  induction l with
  | nil => intro b c; cases b <;> simp [isum, par]
  | cons x l ih =>
    intro b c
    rw [List.length_cons, par_succ]
    cases b
    · show x.toNat + isum true (l ++ [c]) = x.toNat + isum true l + _
      rw [ih, Nat.add_assoc]; cases par l.length <;> rfl
    · show x.toNat * 256 + isum false (l ++ [c]) = x.toNat * 256 + isum false l + _
      rw [ih, Nat.add_assoc]; cases par l.length <;> rfl
def inet (l : List UInt8) : Nat := 65535 - cnorm (isum true l)
theorem isum_le (l : List UInt8) : ∀ b, isum b l ≤ 65280 * l.length := by
  induction l with
  | nil => intro b; cases b <;> simp [isum]
  | cons x l ih =>
    intro b
    have := x.toNat_lt
    cases b
    · have := ih true; simp only [isum, List.length_cons]; omega
    · have := ih false; simp only [isum, List.length_cons]; omega
/-- with the sum behind it the sum is nought -/
theorem inet_with (l : List UInt8) (h : l.length % 2 = 0) (hi lo : UInt8) (h1 : hi.toNat = inet l / 256) (h2 : lo.toNat = inet l % 256) : inet (l ++ [hi, lo]) = 0 := by
  have e : l ++ [hi, lo] = (l ++ [hi]) ++ [lo] := by simp
  have p1 : par l.length = true := by unfold par; simp [h]
  have p2 : par (l ++ [hi]).length = false := by unfold par; simp; omega
  have hs : isum true (l ++ [hi, lo]) = isum true l + inet l := by
    rw [e, isum_snoc, isum_snoc, p1, p2]
    simp only [if_true, Bool.false_eq_true, if_false, Bool.not_true]
    rw [h1, h2]; omega
  have hc := cnorm_le (isum true l)
  have hk : cnorm (isum true l + inet l) = 65535 := by
    unfold inet
    generalize isum true l = s at *
    rcases Nat.eq_zero_or_pos s with rfl | h0
    · decide
    · have e : cnorm s = (s - 1) % 65535 + 1 := by unfold cnorm; rw [if_neg (by omega)]
      rw [e]; unfold cnorm; rw [if_neg (by omega)]; omega
  show 65535 - cnorm _ = 0
  rw [hs, hk]

/-- Fletcher's two sums -/
def fl0 (l : List UInt8) : Nat := l.foldl (fun c x => (c + x.toNat) % 255) 0
def fl (p : Nat × Nat) (l : List UInt8) : Nat × Nat := l.foldl (fun q x => ((q.1 + x.toNat) % 255, (q.2 + (q.1 + x.toNat) % 255) % 255)) p
theorem fl_append (p : Nat × Nat) (l m : List UInt8) : fl p (l ++ m) = fl (fl p l) m := List.foldl_append ..
theorem fl_cons (p : Nat × Nat) (x : UInt8) (l : List UInt8) : fl p (x :: l) = fl ((p.1 + x.toNat) % 255, (p.2 + (p.1 + x.toNat) % 255) % 255) l := rfl
theorem fl_lt (l : List UInt8) : ∀ p : Nat × Nat, p.1 < 255 → p.2 < 255 → (fl p l).1 < 255 ∧ (fl p l).2 < 255 := by
  induction l with
  | nil => intro p h1 h2; exact ⟨h1, h2⟩
  | cons x l ih => intro p _ _; rw [fl_cons]; exact ih _ (Nat.mod_lt _ (by omega)) (Nat.mod_lt _ (by omega))
/-- what bytes add to both sums: plainly, and by their places from the end -/
def s0 (l : List UInt8) : Nat := match l with | [] => 0 | x :: l => x.toNat + s0 l
def s1 (l : List UInt8) : Nat := match l with | [] => 0 | x :: l => x.toNat * (l.length + 1) + s1 l
theorem s0_append (l m : List UInt8) : s0 (l ++ m) = s0 l + s0 m := by
  induction l with
  | nil => simp [s0]
  | cons x l ih => simp only [List.cons_append, s0, ih]; omega
theorem s1_append (l m : List UInt8) : s1 (l ++ m) = s1 l + s0 l * m.length + s1 m := by
  induction l with
  | nil => simp [s0, s1]
  | cons x l ih =>
    simp only [List.cons_append, s0, s1, ih, List.length_append]
    rw [Nat.add_mul (x.toNat), show x.toNat * (l.length + m.length + 1) = x.toNat * (l.length + 1) + x.toNat * m.length by rw [← Nat.mul_add]; congr 1; omega]
    omega
theorem fl_eq (l : List UInt8) : ∀ p : Nat × Nat, p.1 < 255 → p.2 < 255 → fl p l = ((p.1 + s0 l) % 255, (p.2 + p.1 * l.length + s1 l) % 255) := by
  induction l with
  | nil => intro p h1 h2; simp [fl, s0, s1]; ext <;> simp <;> omega
  | cons x l ih =>
    intro p h1 h2
    rw [fl_cons, ih _ (Nat.mod_lt _ (by omega)) (Nat.mod_lt _ (by omega))]
    simp only [s0, s1, List.length_cons]
    refine Prod.ext (by simp only; omega) ?_
    simp only
    generalize s1 l = t
    generalize l.length = n
    generalize hx : x.toNat = y
    obtain ⟨a, b⟩ := p
    simp only at h1 h2 ⊢
    have e : (a + y) % 255 * n % 255 = (a + y) * n % 255 := by rw [Nat.mod_mul_mod]
    have e2 : a * (n + 1) + y * (n + 1) = (a + y) * n + (a + y) := by rw [← Nat.add_mul, Nat.mul_add]; omega
    have e3 : ((b + (a + y) % 255) % 255 + (a + y) % 255 * n + t) % 255 = (b + (a + y) + (a + y) % 255 * n + t) % 255 := by omega
    rw [e3]
    generalize (a + y) % 255 * n = u at *
    generalize (a + y) * n = v at *
    omega
theorem s0_set (l : List UInt8) (c : UInt8) : ∀ i : Nat, (h : i < l.length) → s0 (l.set i c) + l[i].toNat = s0 l + c.toNat := by
  induction l with
  | nil => intro i h; simp at h
  | cons x l ih =>
    intro i h
    cases i with
    | zero => simp only [List.set_cons_zero, s0, List.getElem_cons_zero]; omega
    | succ i =>
      have := ih i (by simpa using h)
      simp only [List.set_cons_succ, s0, List.getElem_cons_succ]; omega
theorem s1_set (l : List UInt8) (c : UInt8) : ∀ i : Nat, (h : i < l.length) → s1 (l.set i c) + l[i].toNat * (l.length - i) = s1 l + c.toNat * (l.length - i) := by
  induction l with
  | nil => intro i h; simp at h
  | cons x l ih =>
    intro i h
    cases i with
    | zero => simp only [List.set_cons_zero, s1, List.getElem_cons_zero, List.length_cons, Nat.sub_zero]; omega
    | succ i =>
      have := ih i (by simpa using h)
      simp only [List.set_cons_succ, s1, List.getElem_cons_succ, List.length_cons, List.length_set]
      rw [show l.length + 1 - (i + 1) = l.length - i by omega]; omega
def rightF (l : List UInt8) : Bool := decide (s0 l % 255 = 0 ∧ s1 l % 255 = 0)
theorem fl_zero (l : List UInt8) : fl (0, 0) l = (s0 l % 255, s1 l % 255) := by rw [fl_eq _ _ (by decide) (by decide)]; simp
/-- one byte turned: right no more, but where both are alike -/
theorem right_set {l : List UInt8} (i : Nat) (h : i < l.length) (c : UInt8) (hr : rightF l = true) : rightF (l.set i c) = decide (l[i].toNat % 255 = c.toNat % 255) := by
  unfold rightF at *
  rw [decide_eq_true_eq] at hr
  have h0 := s0_set l c i h
  have h1 := s1_set l c i h
  rw [decide_eq_decide]
  constructor
  · rintro ⟨a, _⟩; omega
  · intro e
    refine ⟨by omega, ?_⟩
    have e1 : l[i].toNat * (l.length - i) % 255 = c.toNat * (l.length - i) % 255 := by rw [Nat.mul_mod, e, ← Nat.mul_mod]
    omega
/-- l with noughts at k and k + 1 -/
def zed (l : List UInt8) (k : Nat) : List UInt8 := (l.set k 0).set (k + 1) 0
theorem zed_len (l : List UInt8) (k : Nat) : (zed l k).length = l.length := by unfold zed; simp
theorem zed_eq {l : List UInt8} {k : Nat} (h : k + 2 ≤ l.length) : l.take k ++ [0, 0] ++ l.drop (k + 2) = zed l k := by
  unfold zed
  apply List.ext_getElem?
  intro j
  have h1 : (l.take k).length = k := by simp; omega
  rw [List.append_assoc, List.getElem?_append, h1, List.getElem?_set, List.getElem?_set, List.getElem?_take]
  simp only [List.length_set]
  by_cases a : j < k
  · rw [if_pos a, if_pos a, if_neg (by omega), if_neg (by omega)]
  · rw [if_neg a]
    by_cases b : j = k
    · subst b; rw [if_neg (by omega), if_pos rfl, if_pos (by omega)]; simp
    · by_cases c : j = k + 1
      · subst c; rw [if_pos rfl, if_pos (by omega), show k + 1 - k = 1 by omega]; rfl
      · rw [if_neg (by omega), if_neg (by omega), List.getElem?_append, if_neg (by simp; omega), List.getElem?_drop]; congr 1; simp; omega
theorem zed_get {l : List UInt8} {k j : Nat} (h : j < l.length) : (zed l k)[j]'(by rw [zed_len]; exact h) = if j = k ∨ j = k + 1 then 0 else l[j] := by
  unfold zed
  rw [List.getElem_set, List.getElem_set]
  by_cases a : k + 1 = j
  · rw [if_pos a, if_pos (.inr a.symm)]
  · rw [if_neg a]
    by_cases b : k = j
    · rw [if_pos b, if_pos (.inl b.symm)]
    · rw [if_neg b, if_neg (by omega)]
def flX (z : List UInt8) (n k : Nat) : Nat := ((n - k - 1) % 255 * (s0 z % 255) + 255 - s1 z % 255) % 255
def flY (z : List UInt8) (n k : Nat) : Nat := (510 - s0 z % 255 - flX z n k) % 255
theorem flX_lt (z : List UInt8) (n k : Nat) : flX z n k < 255 := Nat.mod_lt _ (by omega)
theorem flY_lt (z : List UInt8) (n k : Nat) : flY z n k < 255 := Nat.mod_lt _ (by omega)
theorem fl_cond {s t q p x : Nat} (hs : s < 255) (ht : t < 255) (hx : x < 255) (hp : p % 255 = (q + 1) % 255) :
    (t + x * p + (510 - s - x) % 255 * q) % 255 = 0 ↔ x = (q * s + 255 - t) % 255 := by
  have h1 : x * p % 255 = (x * q + x) % 255 := by rw [Nat.mul_mod, hp, ← Nat.mul_mod, Nat.mul_add, Nat.mul_one]
  obtain ⟨y, hy⟩ : ∃ y, y = (510 - s - x) % 255 := ⟨_, rfl⟩
  obtain ⟨k, hk⟩ : ∃ k, k = (510 - s - x) / 255 := ⟨_, rfl⟩
  have h2 : y + s + x + 255 * k = 510 := by omega
  rw [← hy]
  have h3 : y * q + s * q + x * q + 255 * (k * q) = 510 * q := by
    have := congrArg (· * q) h2
    simp only [Nat.add_mul] at this
    rw [Nat.mul_assoc] at this
    exact this
  have hqs : q * s = s * q := Nat.mul_comm _ _
  rw [hqs]
  generalize x * p = a at *
  generalize x * q = b at *
  generalize y * q = c at *
  generalize s * q = d at *
  generalize k * q = e at *
  omega
/-- the two bytes make it right -/
theorem right_with {l : List UInt8} {k : Nat} (h : k + 2 ≤ l.length) (x y : UInt8) (hx : x.toNat = flX (zed l k) l.length k) (hy : y.toNat = flY (zed l k) l.length k) : rightF ((l.set k x).set (k + 1) y) = true := by
  have e : (l.set k x).set (k + 1) y = ((zed l k).set k x).set (k + 1) y := by
    unfold zed
    rw [List.set_comm _ _ (show k + 1 ≠ k by omega), List.set_set, List.set_set]
  have z0 : (zed l k)[k]'(by rw [zed_len]; omega) = 0 := by rw [zed_get (by omega), if_pos (.inl rfl)]
  have z1 : (zed l k)[k + 1]'(by rw [zed_len]; omega) = 0 := by rw [zed_get (by omega), if_pos (.inr rfl)]
  have hl := zed_len l k
  have a0 := s0_set (zed l k) x k (by omega)
  have a1 := s1_set (zed l k) x k (by omega)
  rw [z0] at a0 a1
  have b0 := s0_set ((zed l k).set k x) y (k + 1) (by simp; omega)
  have b1 := s1_set ((zed l k).set k x) y (k + 1) (by simp; omega)
  rw [List.getElem_set_ne (by omega), z1] at b0 b1
  rw [List.length_set] at b1
  rw [e]
  unfold rightF
  rw [decide_eq_true_eq]
  have hX := hx; have hY := hy
  unfold flY at hY
  rw [← hX] at hY
  have hxl : x.toNat < 255 := by rw [hx]; exact flX_lt ..
  have hc := (fl_cond (s := s0 (zed l k) % 255) (t := s1 (zed l k) % 255) (q := (l.length - k - 1) % 255) (p := (l.length - k) % 255) (x := x.toNat) (Nat.mod_lt _ (by omega)) (Nat.mod_lt _ (by omega)) hxl (by omega)).2 hX
  rw [← hY] at hc
  have m1 : x.toNat * ((l.length - k) % 255) % 255 = x.toNat * (l.length - k) % 255 := by rw [Nat.mul_mod_mod]
  have m2 : y.toNat * ((l.length - k - 1) % 255) % 255 = y.toNat * (l.length - k - 1) % 255 := by rw [Nat.mul_mod_mod]
  rw [hl] at a1 b1
  rw [show l.length - (k + 1) = l.length - k - 1 by omega] at b1
  simp only [show (0 : UInt8).toNat = 0 from rfl, Nat.zero_mul, Nat.add_zero] at a0 a1 b0 b1
  rw [b0, b1, a0, a1]
  constructor
  · omega
  · generalize x.toNat * ((l.length - k) % 255) = u at *
    generalize y.toNat * ((l.length - k - 1) % 255) = v at *
    generalize x.toNat * (l.length - k) = u' at *
    generalize y.toNat * (l.length - k - 1) = v' at *
    omega
/-- the document's second sum, as far as i -/
def tsum (z : List UInt8) (i : Nat) : Nat := s1 (z.take i) + s0 (z.take i) * (z.length - i)
theorem tsum_zero (z : List UInt8) : tsum z 0 = 0 := by simp [tsum, s0, s1]
theorem tsum_all (z : List UInt8) : tsum z z.length = s1 z := by simp [tsum]
theorem tsum_succ (z : List UInt8) (i : Nat) (h : i < z.length) : tsum z (i + 1) = tsum z i + z[i].toNat * (z.length - i) := by
  unfold tsum
  rw [List.take_succ_eq_append_getElem h, s1_append, s0_append]
  simp only [s0, s1, List.length_cons, List.length_nil, Nat.add_zero, Nat.zero_add, Nat.mul_one]
  obtain ⟨m, hm⟩ : ∃ m, z.length - i = m + 1 := ⟨z.length - i - 1, by omega⟩
  rw [hm, show z.length - (i + 1) = m by omega, Nat.add_mul, Nat.mul_add, Nat.mul_add]; omega
theorem s0_snoc (z : List UInt8) (i : Nat) (h : i < z.length) : s0 (z.take (i + 1)) = s0 (z.take i) + z[i].toNat := by
  rw [List.take_succ_eq_append_getElem h, s0_append]; simp [s0]
end Go.Proofs.YtialookpnoaogaaGreat
/- sums.grow, Right, Internet, walked. -/
namespace Go.Proofs.YtialookpnoaogaaGreat
open Go.RowKit

theorem ret_int {k : IntKind} {a b : Int} (h : a = b) : Ending.returned (.int k a) = .returned (.int k b) := by rw [h]
theorem ret_pair {k : IntKind} {a b c d : Int} (h : a = c) (h2 : b = d) : Ending.returned (.tuple #[.int k a, .int k b]) = .returned (.tuple #[.int k c, .int k d]) := by rw [h, h2]
theorem drop_cell {w : World} {g o : Nat} {l : List UInt8} (h : w.rangeAt g o (l.map bv)) (k : Nat) (hk : k < l.length) : w.cell? ⟨g, o + k, none⟩ = some (.int .u8 (l[k]).toNat) := h k _ (by simp [hk, bv])

end Go.Proofs.YtialookpnoaogaaGreat
/- wire: Lay16, Lay32, Read, walked. -/
namespace Go.Proofs.YtialookpnoaogaaGreat
open Go.RowKit

theorem ofNat_mod (m : Nat) : bv (UInt8.ofNat m) = .int .u8 ((m : Int) % 256) := (bv_ofNat m).symm
theorem be2 (n : Nat) : be 2 n = [UInt8.ofNat (n / 256), UInt8.ofNat n] := by simp [be]
theorem be4 (n : Nat) : be 4 n = [UInt8.ofNat (n / 16777216), UInt8.ofNat (n / 65536), UInt8.ofNat (n / 256), UInt8.ofNat n] := by simp [be]
theorem Grown.trans {w wr w2 : World} {v : Value} {q q2 : Option Addr} {n n2 d d2 : Nat} (h : Grown w v q n d wr) (g : Grown wr (.slice q n d) q2 n2 d2 w2) : Grown w v q2 n2 d2 w2 :=
  ⟨h.k.trans' g.k (fun i e => h.s i e), fun k e => by
    rcases g.s k e with e | e
    · exact h.s k e
    · exact .inr (Nat.le_trans h.k.size e)⟩
theorem lt_own {w0 w : World} {v : Value} {xs : List UInt8} (h : OwnB w0 w v xs) (k : Nat) (e : v.ownBlock = some k) : k < w.heap.size := by
  rcases h.1.2 with ⟨rfl, _⟩ | ⟨g, cap, cur, rfl, _, hg, _⟩
  · simp [Value.ownBlock] at e
  · simp only [Value.ownBlock, Option.some.injEq] at e; subst e; exact lt_of_block hg
/-- a call that appends l to a row of bytes of the call's own (own since w0) -/
def Appends (w0 : World) (v : Value) (xs l : List UInt8) (w : World) (e : Ending) (w' : World) : Prop :=
  ∃ p c, e = .returned (.slice p (xs.length + l.length) c) ∧ OwnB w0 w' (.slice p (xs.length + l.length) c) (xs ++ l) ∧ Grown w v p (xs.length + l.length) c w'


theorem or_low32 (m : Nat) (c : UInt8) (hm : m * 256 < 4294967296) : bits .or .u32 ((m : Int) * 256) (c.toNat : Int) = ((m * 256 + c.toNat : Nat) : Int) := by
  have hc := c.toNat_lt
  have h := u32_or_nat (m * 256) c.toNat hm (by omega)
  rw [or_low, show ((m * 256 : Nat) : Int) = (m : Int) * 256 by omega] at h
  exact h
def nv (n : Nat) : Value := .int .u32 n
theorem nv_one (l : List Nat) : ∀ v ∈ l.map nv, v.oneCell' = true := by
  intro v hv; obtain ⟨x, _, rfl⟩ := List.mem_map.1 hv; rfl
theorem u32InfoAll : (Tryz.prog.info? 40).map (fun i => (i.zero, i.size, i.bytes)) = some (some (.int .u32 0), 1, 4) := by kernel_rfl
def Small (ns : List Nat) : Prop := ∀ n ∈ ns, n < 4294967296
/-- a slice of numbers reads as these -/
def NumsAt (w : World) (v : Value) (ns : List Nat) : Prop :=
  ∃ p c, v = .slice p ns.length c ∧ (p = none → c = 0) ∧ ns.length ≤ c ∧ (0 < ns.length → ∃ b o, p = some ⟨b, o, none⟩ ∧ w.rangeAt b o (ns.map nv))
theorem NumsAt.keepF {F : Nat → Prop} {w w' : World} {v : Value} {x : List Nat} (h : NumsAt w v x) (k : Keeps F w w') (hF : 0 < x.length → ∀ i, v.ownBlock = some i → ¬ F i) : NumsAt w' v x := by
  obtain ⟨p, c, rfl, hp, hc, h⟩ := h
  exact ⟨p, c, rfl, hp, hc, fun h0 => by obtain ⟨b, o, rfl, hr⟩ := h h0; exact ⟨b, o, rfl, k.rangeAt hr (hF h0 b rfl)⟩⟩
theorem NumsAt.keep {w w' : World} {v : Value} {x : List Nat} (h : NumsAt w v x) (k : Keeps (fun _ => False) w w') : NumsAt w' v x := h.keepF k (fun _ _ _ f => f)
theorem NumsAt.nil (w : World) : NumsAt w (.slice none 0 0) [] := ⟨none, 0, rfl, fun _ => rfl, Nat.le_refl _, fun h => by simp at h⟩
/-- the bytes of numbers, four each -/
def bes (ns : List Nat) : List UInt8 := ns.flatMap (be 4)
theorem bes_len (ns : List Nat) : (bes ns).length = 4 * ns.length := by
  induction ns with
  | nil => rfl
  | cons n ns ih => unfold bes at *; rw [List.flatMap_cons, List.length_append, ih, be_len, List.length_cons]; omega
theorem bes_snoc (ns : List Nat) (n : Nat) : bes (ns ++ [n]) = bes ns ++ be 4 n := by unfold bes; simp

end Go.Proofs.YtialookpnoaogaaGreat
/- A region that draws its order, walked once an operation: G tells what holds of the temporaries and of the world, whichever operations have come up. -/
namespace Go.Proofs.YtialookpnoaogaaGreat
open Go.RowKit

def updF (f : Nat → Value) (d : Nat) (v : Value) : Nat → Value := fun k => if k = d then v else f k
def updB (L : Nat → Bool) (r : Nat) : Nat → Bool := fun k => if k = r then true else L k
/-- A with the temporaries ds as f has them -/
def actOf (A : Act) (ds : List Nat) (f : Nat → Value) : Act := ds.foldl (fun a d => a.put (some d) (f d)) A
theorem actOf_cons (A : Act) (d : Nat) (ds : List Nat) (f : Nat → Value) : actOf A (d :: ds) f = actOf (A.put (some d) (f d)) ds f := rfl
theorem actOf_get (ds : List Nat) (f : Nat → Value) : ∀ (A : Act) (i : Nat), (actOf A ds f).tmps[i]? = if i ∈ ds ∧ i < A.tmps.size then some (f i) else A.tmps[i]? := by
  induction ds with
  | nil => intro A i; simp [actOf]
  | cons d ds ih =>
    intro A i
    rw [actOf_cons, ih]
    have hs : (A.put (some d) (f d)).tmps.size = A.tmps.size := by simp [Act.put]
    have hg : (A.put (some d) (f d)).tmps[i]? = if d = i then (if d < A.tmps.size then some (f d) else none) else A.tmps[i]? := by
      simp only [Act.put, Array.getElem?_setIfInBounds]
    rw [hs, hg]
    by_cases h1 : i ∈ ds ∧ i < A.tmps.size
    · rw [if_pos h1, if_pos ⟨List.mem_cons_of_mem _ h1.1, h1.2⟩]
    · rw [if_neg h1]
      by_cases h2 : d = i
      · subst h2
        rw [if_pos rfl]
        by_cases h3 : d < A.tmps.size
        · rw [if_pos h3, if_pos ⟨by simp, h3⟩]
        · rw [if_neg h3, if_neg (fun h => h3 h.2), Array.getElem?_eq_none (by omega)]
      · rw [if_neg h2, if_neg]
        rintro ⟨h3, h4⟩
        rcases List.mem_cons.1 h3 with h3 | h3
        · exact h2 h3.symm
        · exact h1 ⟨h3, h4⟩
theorem actOf_size (ds : List Nat) (f : Nat → Value) : ∀ A : Act, (actOf A ds f).tmps.size = A.tmps.size := by
  induction ds with
  | nil => intro A; rfl
  | cons d ds ih => intro A; rw [actOf_cons, ih]; simp [Act.put]
theorem actOf_defers (ds : List Nat) (f : Nat → Value) : ∀ A : Act, (actOf A ds f).defers = A.defers := by
  induction ds with
  | nil => intro A; rfl
  | cons d ds ih => intro A; rw [actOf_cons, ih]; simp [Act.put]
theorem act_ext {a b : Act} (h1 : ∀ i : Nat, a.tmps[i]? = b.tmps[i]?) (h2 : a.defers = b.defers) : a = b := by
  cases a; cases b
  simp only at h1 h2
  subst h2
  congr 1
  exact Array.ext_getElem? h1
theorem actOf_put {A : Act} {ds : List Nat} {f : Nat → Value} {d : Nat} (hd : d ∈ ds) (v : Value) : (actOf A ds f).put (some d) v = actOf A ds (updF f d v) := by
  apply act_ext
  · intro i
    rw [actOf_get]
    simp only [Act.put, Array.getElem?_setIfInBounds, actOf_size]
    rw [actOf_get]
    by_cases h : d = i
    · subst h
      rw [if_pos rfl]
      by_cases h3 : d < A.tmps.size
      · rw [if_pos h3, if_pos ⟨hd, h3⟩]; simp [updF]
      · rw [if_neg h3, if_neg (fun h => h3 h.2), Array.getElem?_eq_none (by omega)]
    · rw [if_neg h]
      by_cases h1 : i ∈ ds ∧ i < A.tmps.size
      · rw [if_pos h1, if_pos h1]; simp [updF, Ne.symm h]
      · rw [if_neg h1, if_neg h1]
  · rw [actOf_defers]; simp [Act.put, actOf_defers]
theorem actOf_self (A : Act) (ds : List Nat) : actOf A ds (fun d => A.tmps.getD d undef) = A := by
  apply act_ext
  · intro i
    rw [actOf_get]
    split
    · rename_i h; simp [h.2]
    · rfl
  · exact actOf_defers ..

/-- how many have not come up -/
def unl (L : Array Bool) : Nat := L.toList.count false
theorem unl_list : ∀ (l : List Bool) (i : Nat), l[i]? = some false → (l.set i true).count false + 1 = l.count false
  | [], i, h => by simp at h
  | b :: l, 0, h => by simp at h; subst h; simp
  | b :: l, i + 1, h => by
    have := unl_list l i (by simpa using h)
    simp only [List.set_cons_succ, List.count_cons]; omega
theorem unl_set {L : Array Bool} {i : Nat} (h : L.getD i true = false) : unl (L.setIfInBounds i true) + 1 = unl L := by
  unfold unl
  rw [Array.toList_setIfInBounds]
  refine unl_list _ _ ?_
  have hi : i < L.size := by
    rcases Nat.lt_or_ge i L.size with h' | h'
    · exact h'
    · simp [Array.getElem?_eq_none h'] at h
  simp [hi] at h ⊢
  exact h
theorem unl_zero {L : Array Bool} (h : unl L = 0) (i : Nat) : L.getD i true = true := by
  unfold unl at h
  rw [List.count_eq_zero] at h
  rcases Nat.lt_or_ge i L.size with h' | h'
  · have : L[i] ≠ false := fun e => h (by rw [← e]; simp)
    simp [h'] ; simpa using this
  · simp [Array.getElem?_eq_none h']

/-- each edge goes back -/
def backB (md : Region.Mode) (ops : Array Oper) : Bool := (List.range ops.size).all fun i => ((ops[i]?).map fun o => o.after.all fun e => !Region.binds md e || decide (e.on < i)).getD true
section
variable {P : Program} {ops : Array Oper} {Q : Exit → Act → World → Prop} {md : Region.Mode} {S : World → Prop}
theorem backB_spec (h : backB md ops = true) {i : Nat} {o : Oper} (ho : ops[i]? = some o) {e : Edge} (he : e ∈ o.after) (hb : Region.binds md e = true) : e.on < i := by
  unfold backB at h
  have hi : i < ops.size := (Array.getElem?_eq_some_iff.1 ho).1
  have := List.all_eq_true.1 h i (List.mem_range.2 hi)
  rw [ho] at this
  simp only [Option.map_some, Option.getD_some] at this
  have := (Array.all_eq_true'.1 this) e he
  simpa [hb] using this
theorem wpAnyH_inv (Inv : Array Bool → Act → World → Prop) (hb : backB md ops = true)
    (hstep : ∀ L a w i o, ops[i]? = some o → Inv L a w → L.getD i true = false → (∀ e ∈ o.after, Region.binds md e = true → L.getD e.on false = true) → wpOp P ops Q i (fun a' w' => S w' ∧ Inv (L.setIfInBounds i true) a' w') a w)
    (hdone : ∀ L a w, Inv L a w → (∀ i, i < ops.size → L.getD i true = true) → Q .normal a w) :
    ∀ (fuel : Nat) (L : Array Bool) (a : Act) (w : World), unl L ≤ fuel → Inv L a w → wpAnyH P md ops Q S fuel L a w := by
  intro fuel
  induction fuel with
  | zero =>
    intro L a w hu hi
    have hall : ∀ i, L.getD i true = true := unl_zero (by omega)
    refine ⟨?_, hdone L a w hi (fun i _ => hall i)⟩
    rw [List.eq_nil_iff_forall_not_mem]
    intro j hj
    have := (mem_ready.1 hj).1
    rw [hall j] at this; cases this
  | succ fuel ih =>
    intro L a w hu hi
    refine ⟨fun hr => hdone L a w hi ?_, fun i hir => ?_⟩
    · intro i
      induction i using Nat.strongRecOn with
      | _ i ihi =>
        intro hlt
        cases hc : L.getD i true with
        | true => rfl
        | false =>
          exfalso
          have : i ∈ Region.ready md ops L := mem_ready.2 ⟨hc, ops[i], by simp [hlt], fun e he hbd => by
            have hlti := backB_spec hb (show ops[i]? = some ops[i] by simp [hlt]) he hbd
            have h1 := ihi e.on hlti (by omega)
            have hsz : i < L.size := by
              rcases Nat.lt_or_ge i L.size with h' | h'
              · exact h'
              · simp [Array.getElem?_eq_none h'] at hc
            have : e.on < L.size := by omega
            simp [this] at h1 ⊢; exact h1⟩
          rw [hr] at this; cases this
    · obtain ⟨h1, o, ho, h2⟩ := mem_ready.1 hir
      refine wpOp_mono (fun a' w' h => ⟨h.1, ih _ a' w' ?_ h.2⟩) (hstep L a w i o ho hi h1 h2)
      have := unl_set h1; omega

/-- one operation's step -/
def StepG (P : Program) (md : Region.Mode) (ops : Array Oper) (Q : Exit → Act → World → Prop) (S : World → Prop) (A : Act) (ds R : List Nat) (G : (Nat → Bool) → (Nat → Value) → World → Prop) (r : Nat) : Prop :=
  ∀ o, ops[r]? = some o → ∀ (L : Nat → Bool) f w, G L f w → S w → L r = false → (∀ e ∈ o.after, Region.binds md e = true → e.on ∈ R → L e.on = true) →
    wpOp P ops Q r (fun a' w' => S w' ∧ ∃ f', a' = actOf A ds f' ∧ G (updB L r) f' w') (actOf A ds f) w
def StepsG (P : Program) (md : Region.Mode) (ops : Array Oper) (Q : Exit → Act → World → Prop) (S : World → Prop) (A : Act) (ds R : List Nat) (G : (Nat → Bool) → (Nat → Value) → World → Prop) (R' : List Nat) : Prop :=
  ∀ r ∈ R', StepG P md ops Q S A ds R G r
theorem StepsG.nil {A : Act} {ds R : List Nat} {G : (Nat → Bool) → (Nat → Value) → World → Prop} : StepsG P md ops Q S A ds R G [] := fun _ h => by cases h
theorem StepsG.cons {A : Act} {ds R : List Nat} {G : (Nat → Bool) → (Nat → Value) → World → Prop} {r d : Nat} {R' : List Nat} {o : Oper} (ho : ops[r]? = some o) (hd : o.dst = some d) (hm : d ∈ ds)
    (h : ∀ (L : Nat → Bool) f w, G L f w → S w → L r = false → (∀ e ∈ o.after, Region.binds md e = true → e.on ∈ R → L e.on = true) →
      ∀ K' : Act → World → Prop, Shut (∀ v w', S w' → G (updB L r) (updF f d v) w' → K' ((actOf A ds f).put (some d) v) w') →
        if Region.wanted o (yielded ops (actOf A ds f).tmps) = true then Oper.wp P o (actOf A ds f) w K' Q else K' ((actOf A ds f).put o.dst undef) w)
    (hs : StepsG P md ops Q S A ds R G R') : StepsG P md ops Q S A ds R G (r :: R') := fun j hj => by
  rcases List.mem_cons.1 hj with rfl | hj
  · intro o' ho' L f w hG hS hL hdep
    rw [ho] at ho'; injection ho' with ho'; subst ho'
    exact wpOp_step ho (fun K' hK => h L f w hG hS hL hdep K' (fun v w' hS' hG' => hK _ _ ⟨hS', updF f d v, actOf_put hm v, hG'⟩))
  · exact hs j hj
theorem StepsG.cons0 {A : Act} {ds R : List Nat} {G : (Nat → Bool) → (Nat → Value) → World → Prop} {r : Nat} {R' : List Nat} {o : Oper} (ho : ops[r]? = some o) (hd : o.dst = none)
    (h : ∀ (L : Nat → Bool) f w, G L f w → S w → L r = false → (∀ e ∈ o.after, Region.binds md e = true → e.on ∈ R → L e.on = true) →
      ∀ K' : Act → World → Prop, Shut (∀ w', S w' → G (updB L r) f w' → K' (actOf A ds f) w') →
        if Region.wanted o (yielded ops (actOf A ds f).tmps) = true then Oper.wp P o (actOf A ds f) w K' Q else K' ((actOf A ds f).put o.dst undef) w)
    (hs : StepsG P md ops Q S A ds R G R') : StepsG P md ops Q S A ds R G (r :: R') := fun j hj => by
  rcases List.mem_cons.1 hj with rfl | hj
  · intro o' ho' L f w hG hS hL hdep
    rw [ho] at ho'; injection ho' with ho'; subst ho'
    exact wpOp_step ho (fun K' hK => h L f w hG hS hL hdep K' (fun w' hS' hG' => hK _ _ ⟨hS', f, rfl, hG'⟩))
  · exact hs j hj
/-- the region's rest: R has not come up; ds: what R writes -/
theorem wpAnyH_slots {A : Act} {w : World} {fuel : Nat} {L0 : Array Bool} (ds R : List Nat) (G : (Nat → Bool) → (Nat → Value) → World → Prop)
    (hb : backB md ops = true) (hR : ((List.range ops.size).all fun j => L0.getD j true || R.contains j) = true) (hsz : L0.size = ops.size) (hR2 : (R.all fun j => !L0.getD j true) = true) (hf : unl L0 ≤ fuel) (hS : S w)
    (h0 : ∀ (L : Nat → Bool) f, (∀ r ∈ R, L r = false) → G L f w)
    (hs : StepsG P md ops Q S A ds R G R)
    (hdone : ∀ f w, G (fun _ => true) f w → S w → Q .normal (actOf A ds f) w) : wpAnyH P md ops Q S fuel L0 A w := by
  refine wpAnyH_inv (fun L a w => S w ∧ L.size = ops.size ∧ (∀ j, j ∉ R → L.getD j true = true) ∧ ∃ f, a = actOf A ds f ∧ G (fun j => L.getD j true) f w) hb ?_ ?_ fuel L0 A w hf ?_
  · rintro L a w i o ho ⟨hSw, hsz, hL, f, rfl, hG⟩ hun hdep
    have hi : i ∈ R := Classical.byContradiction fun h => by rw [hL i h] at hun; cases hun
    refine wpOp_mono ?_ (hs i hi o ho _ f w hG hSw hun (fun e he hbd hr => ?_))
    · rintro a' w' ⟨hS', f', rfl, hG'⟩
      refine ⟨hS', hS', by simpa using hsz, fun j hj => ?_, f', rfl, ?_⟩
      · have hne : i ≠ j := fun e => hj (e ▸ hi)
        rw [getD_set_ne true hne]; exact hL j hj
      · have hilt : i < L.size := by
          rcases Nat.lt_or_ge i L.size with h' | h'
          · exact h'
          · simp [Array.getElem?_eq_none h'] at hun
        have e : (fun j => (L.setIfInBounds i true).getD j true) = updB (fun j => L.getD j true) i := by
          funext j
          unfold updB
          by_cases hj : j = i
          · subst hj; rw [if_pos rfl]; simp [hilt]
          · rw [if_neg hj, getD_set_ne true (Ne.symm hj)]
        rw [e]; exact hG'
    · have h1 := hdep e he hbd
      have : e.on < L.size := by
        rcases Nat.lt_or_ge e.on L.size with h' | h'
        · exact h'
        · simp [Array.getElem?_eq_none h'] at h1
      simp [this] at h1 ⊢; exact h1
  · rintro L a w ⟨hSw, hsz, hL, f, rfl, hG⟩ hall
    refine hdone f w ?_ hSw
    have e : (fun j => L.getD j true) = fun _ => true := by
      funext j
      by_cases hj : j < ops.size
      · exact hall j hj
      · simp [Array.getElem?_eq_none (show L.size ≤ j by omega)]
    rw [e] at hG; exact hG
  · refine ⟨hS, hsz, fun j hj => ?_, _, (actOf_self A ds).symm, h0 _ _ (fun r hr => ?_)⟩
    · by_cases hlt : j < ops.size
      · have := List.all_eq_true.1 hR j (List.mem_range.2 hlt)
        rw [Bool.or_eq_true] at this
        rcases this with h | h
        · exact h
        · exact absurd (by simpa using h) hj
      · simp [Array.getElem?_eq_none (show L0.size ≤ j by omega)]
    · have := List.all_eq_true.1 hR2 r hr
      simpa using this
end
end Go.Proofs.YtialookpnoaogaaGreat
/- The document's num, Num, walked. -/
namespace Go.Proofs.YtialookpnoaogaaGreat
open Go.RowKit

theorem be_get (k n : Nat) : ∀ m, m < k → (be k n)[m]? = some (UInt8.ofNat (n / 256 ^ (k - 1 - m))) := by
  induction k with
  | zero => intro m h; omega
  | succ k ih =>
    intro m h
    cases m with
    | zero => simp [be]
    | succ m =>
      have := ih m (by omega)
      rw [be, List.getElem?_cons_succ, this, show k + 1 - 1 - (m + 1) = k - 1 - m by omega]
theorem be_take (k n j : Nat) (h : j < k) : (be k n).take (k - (j + 1)) ++ [UInt8.ofNat (n / 256 ^ j)] = (be k n).take (k - j) := by
  have hl := be_len k n
  have hg := be_get k n (k - (j + 1)) (by omega)
  rw [show k - 1 - (k - (j + 1)) = j by omega] at hg
  rw [show k - j = k - (j + 1) + 1 by omega, List.take_succ_eq_append_getElem (by omega)]
  rw [List.getElem?_eq_getElem (by omega)] at hg
  injection hg with hg
  rw [hg]
/-- new bytes of the call's own -/
def NewOwn (l : List UInt8) (w : World) (e : Ending) (w' : World) : Prop :=
  ∃ p c, e = .returned (.slice p l.length c) ∧ OwnB w w' (.slice p l.length c) l ∧ Keeps (fun _ => False) w w'
theorem pow256 (j : Nat) : (2 : Int) ^ (8 * j) = ((256 ^ j : Nat) : Int) := by
  rw [Int.natCast_pow]
  rw [show ((256 : Nat) : Int) = 2 ^ 8 from rfl, ← Int.pow_mul]
end Go.Proofs.YtialookpnoaogaaGreat
/- Headers as bytes: the document's PutHeader, walked. -/
namespace Go.Proofs.YtialookpnoaogaaGreat
open Go.RowKit

/-- a header, plain -/
structure HeadD where
  age : Int
  type : Int
  id : Nat
  adv : Nat
  seq : Int
  sum : Nat
  len : Int
def headV (h : HeadD) : Value := .agg #[.int .i64 h.age, .int .i64 h.type, .int .u32 h.id, .int .u32 h.adv, .int .i64 h.seq, .int .u16 h.sum, .int .i64 h.len]

theorem load_int (w : World) (b o : Nat) (v : Value) (h : w.cell? ⟨b, o, none⟩ = some v) : (loadVar 3 ⟨b, o, none⟩).run Tryz.prog w = .ok v w := by simp [go_sem, h]
theorem load_u32 (w : World) (b o : Nat) (v : Value) (h : w.cell? ⟨b, o, none⟩ = some v) : (loadVar 40 ⟨b, o, none⟩).run Tryz.prog w = .ok v w := by simp [go_sem, h]
theorem load_u8 (w : World) (b o : Nat) (v : Value) (h : w.cell? ⟨b, o, none⟩ = some v) : (loadVar 5 ⟨b, o, none⟩).run Tryz.prog w = .ok v w := by simp [go_sem, h]
theorem bv_lt (n : Nat) (h : n < 256) : bv (UInt8.ofNat n) = .int .u8 (n : Int) := by
  unfold bv
  have : (UInt8.ofNat n).toNat = n := by simp; omega
  rw [this]
theorem u64_wrap (n : Int) : IntKind.u64.wrap n = n % 18446744073709551616 := by
  unfold IntKind.wrap
  have h1 : IntKind.u64.signed = false := rfl
  have h2 : (2 : Int) ^ IntKind.u64.bits = 18446744073709551616 := rfl
  simp [h1, h2]
theorem u8_wrap (n : Int) : IntKind.u8.wrap n = n % 256 := by
  unfold IntKind.wrap
  have h1 : IntKind.u8.signed = false := rfl
  have h2 : (2 : Int) ^ IntKind.u8.bits = 256 := rfl
  simp [h1, h2]
theorem u16_wrap (n : Int) : IntKind.u16.wrap n = n % 65536 := by
  unfold IntKind.wrap
  have h1 : IntKind.u16.signed = false := rfl
  have h2 : (2 : Int) ^ IntKind.u16.bits = 65536 := rfl
  simp [h1, h2]
theorem u32_wrap (n : Int) : IntKind.u32.wrap n = n % 4294967296 := by
  unfold IntKind.wrap
  have h1 : IntKind.u32.signed = false := rfl
  have h2 : (2 : Int) ^ IntKind.u32.bits = 4294967296 := rfl
  simp [h1, h2]
def lo64 (n : Int) : Nat := (n % 18446744073709551616).toNat
def lo32 (n : Int) : Nat := (n % 4294967296).toNat
def lo16 (n : Int) : Nat := (n % 65536).toNat
def lo8 (n : Int) : Nat := (n % 256).toNat
theorem u64_nat (n : Int) : ∃ U : Nat, IntKind.u64.wrap n = (U : Int) ∧ U < 18446744073709551616 ∧ Hid (lo64 n = U) := ⟨lo64 n, by rw [u64_wrap]; unfold lo64; omega, by unfold lo64; omega, Lib.hid rfl⟩
theorem u32_nat (n : Int) : ∃ U : Nat, IntKind.u32.wrap n = (U : Int) ∧ U < 4294967296 ∧ Hid (lo32 n = U) := ⟨lo32 n, by rw [u32_wrap]; unfold lo32; omega, by unfold lo32; omega, Lib.hid rfl⟩
theorem u16_nat (n : Int) : ∃ U : Nat, IntKind.u16.wrap n = (U : Int) ∧ U < 65536 ∧ Hid (lo16 n = U) := ⟨lo16 n, by rw [u16_wrap]; unfold lo16; omega, by unfold lo16; omega, Lib.hid rfl⟩
theorem u8_nat (n : Int) : ∃ U : Nat, IntKind.u8.wrap n = (U : Int) ∧ U < 256 ∧ Hid (lo8 n = U) := ⟨lo8 n, by rw [u8_wrap]; unfold lo8; omega, by unfold lo8; omega, Lib.hid rfl⟩
/-- a header's 20 bytes -/
def headB (h : HeadD) : List UInt8 := be 2 (lo64 h.age) ++ [2, UInt8.ofNat (lo8 h.type)] ++ be 4 h.id ++ be 4 h.adv ++ be 4 (lo64 h.seq) ++ be 2 h.sum ++ be 2 (lo64 h.len)
theorem headB_len (h : HeadD) : (headB h).length = 20 := by unfold headB; simp [be_len]
theorem Boxed.grow {B : Nat} {cs : List Value} {w0 W W' : World} (s : Boxed B cs w0 W) (hB : B < w0.heap.size) {v : Value} {p : Option Addr} {n c : Nat} (g : Grown W v p n c W') (hv : ∀ k, v.ownBlock = some k → w0.heap.size ≤ k) : Boxed B cs w0 W' :=
  ⟨g.k.rangeAt s.r (fun e => by have := hv B e; omega), s.k.trans' g.k (fun i e => .inr (hv i e))⟩
theorem run_append_b {P : Program} (w : World) (t ty : TypeId) (i : TypeInfo) (ht : P.underlying t = some (.slice 5)) (hi : P.info? 5 = some i) (hz : i.zero = some (.int .u8 0)) (hsize : i.size = 1) (hby : i.bytes = 1)
    (w0 : World) (v : Value) (xs : List UInt8) (hown : OwnB w0 w v xs) (sv : Value) (l : List UInt8) (hl : BytesAt w sv l) (hsz : xs.length + l.length ≤ 70368744177664) :
    ∃ p c w', (Builtin.append_ #[t, t] ty #[v, sv]).run P w = .ok (.slice p (xs.length + l.length) c) w' ∧ OwnB w0 w' (.slice p (xs.length + l.length) c) (xs ++ l) ∧ Grown w v p (xs.length + l.length) c w' := by
  obtain ⟨sp, sc, rfl, hp, -, hlr⟩ := hl
  cases sp with
  | none =>
    have h0 : l.length = 0 := by
      rcases Nat.eq_zero_or_pos l.length with h | h
      · exact h
      · obtain ⟨b, o, e, _⟩ := hlr h; cases e
    have hc := hp rfl
    subst hc
    have hl0 : l = [] := List.length_eq_zero_iff.1 h0
    subst hl0
    obtain ⟨p, c, rfl⟩ := hown.slice
    exact ⟨p, c, w, run_append_owned_none (P := P) (w := w) 0 t ty 5 i 1 ht hi _ xs.length (xs.map bv) hown.1, by simpa using hown, Keeps.refl _ _, fun k e => .inl e⟩
  | some ad =>
    obtain ⟨v', w', hr, h2, h3, h4⟩ := run_append_sep (P := P) w t ty 5 i (.int .u8 0) 1 1 ht hi hz hsize hby rfl (by decide) v xs.length (xs.map bv) hown.1 ad l.length sc (l.map bv) (by simp) (fun j u hu => by
      have h0 : 0 < l.length := by
        have := (List.getElem?_eq_some_iff.1 hu).1; simp at this; omega
      obtain ⟨b, o, e, hr⟩ := hlr h0
      injection e with e; subst e
      rw [Addr.add_mid]; exact hr j u hu) (bv_one l) (by unfold maxLen; omega) (by omega)
    obtain ⟨p, c, rfl⟩ := ownsRow_slice h2
    refine ⟨p, c, w', hr, ⟨by simpa using h2, fun k e => ?_, Nat.le_trans hown.2.2 h3.size⟩, (Keeps.refl _ _).grown h3 (fun k e => .inl e), h4⟩
    rcases h4 k e with e | e
    · exact hown.2.1 k e
    · exact Nat.le_trans hown.2.2 e
/-- bytes of whatever source behind bytes of the call's own: one operation -/
theorem wp_append_b {P : Program} {w : World} {o : Oper} {a : Act} {K : Act → World → Prop} {Q : Exit → Act → World → Prop} (s x : Operand) (t : TypeId)
    (ho : o.op = .call { callee := .builtin .append, args := #[s, x], argTypes := #[t, t] })
    (i : TypeInfo) (ht : P.underlying t = some (.slice 5)) (hi : P.info? 5 = some i) (hz : i.zero = some (.int .u8 0)) (hsize : i.size = 1) (hby : i.bytes = 1)
    (w0 : World) (v : Value) (xs : List UInt8) (hs : a.eval s = v) (hown : OwnB w0 w v xs) (sv : Value) (hx : a.eval x = sv) (l : List UInt8) (hl : BytesAt w sv l) (hsz : xs.length + l.length ≤ 70368744177664)
    (h : ∀ p c w', OwnB w0 w' (.slice p (xs.length + l.length) c) (xs ++ l) → Grown w v p (xs.length + l.length) c w' → K (a.put o.dst (.slice p (xs.length + l.length) c)) w') : Oper.wp P o a w K Q := by
  obtain ⟨p, c, w', hr, h1, h2⟩ := run_append_b (P := P) w t o.type i ht hi hz hsize hby w0 v xs hown sv l hl hsz
  unfold Oper.wp execOp
  simp only [ho, resolve, invoke, builtin, Sem.run_bind, Sem.run_pure, Result.andThen_ok, List.map_toArray, List.map_cons, List.map_nil, hs, hx, hr]
  exact h p c w' h1 h2

end Go.Proofs.YtialookpnoaogaaGreat
/- lsa.PutHeader, walked. -/
namespace Go.Proofs.YtialookpnoaogaaGreat
open Go.RowKit

theorem be_mod (k n m : Nat) (h : n % 256 ^ k = m % 256 ^ k) : be k n = be k m := by
  have h1 := be_beVal (be k n)
  have h2 := be_beVal (be k m)
  rw [be_len, beVal_be] at h1 h2
  rw [← h1, ← h2, h]
theorem be4_lo (n : Int) : be 4 (lo32 n) = be 4 (lo64 n) := be_mod 4 _ _ (by unfold lo32 lo64; omega)
theorem be2_lo (n : Int) : be 2 (lo16 n) = be 2 (lo64 n) := be_mod 2 _ _ (by unfold lo16 lo64; omega)
theorem Grown.nil {W W' : World} {p : Option Addr} {n c : Nat} (g : Grown W (.slice none 0 0) p n c W') : Keeps (fun _ => False) W W' := g.k.mono (fun i e => by simp [Value.ownBlock] at e)
/-- a new block of numbers -/
theorem NumsAt.new (w : World) (l : List Nat) {n : Nat} (hn : l.length = n) : NumsAt (w.alloc (.cells (l.map nv).toArray 40)) (.slice (some ⟨w.heap.size, 0, none⟩) n n) l := by
  subst hn
  refine ⟨some ⟨w.heap.size, 0, none⟩, l.length, rfl, (fun h => nomatch h), Nat.le_refl _, fun _ => ⟨w.heap.size, 0, rfl, fun j u hu => ?_⟩⟩
  have := cells_new (w := w) (n := w.heap.size) rfl (l.map nv) 40 j u hu
  rw [Addr.add_mid] at this; exact this

end Go.Proofs.YtialookpnoaogaaGreat
/- Links in memory; within, isWrong, the search among links. -/
namespace Go.Proofs.YtialookpnoaogaaGreat
open Go.RowKit

/-- a link, plain -/
structure LinkD where
  id : Nat
  data : Nat
  type : Int
  cost : Int
def LinkD.ok (l : LinkD) : Prop := l.id < 4294967296 ∧ l.data < 4294967296 ∧ (-9223372036854775808 ≤ l.type ∧ l.type ≤ 9223372036854775807) ∧ (-9223372036854775808 ≤ l.cost ∧ l.cost ≤ 9223372036854775807)
def linkVals (l : LinkD) : List Value := [.int .u32 l.id, .int .u32 l.data, .int .i64 l.type, .int .i64 l.cost]
theorem linkInfo : (Tryz.prog.info? 142).map (·.size) = some 4 := by kernel_rfl
/-- links in memory -/
def LinksAt (w : World) (v : Value) (ls : List LinkD) : Prop := ∃ p c, v = .slice p ls.length c ∧ (p = none → c = 0) ∧ ls.length ≤ c ∧ (0 < ls.length → ∃ g o, p = some ⟨g, o, none⟩ ∧ ∀ i l, ls[i]? = some l → w.rangeAt g (o + i * 4) (linkVals l))
theorem LinksAt.keepF {F : Nat → Prop} {w w' : World} {v : Value} {ls : List LinkD} (h : LinksAt w v ls) (k : Keeps F w w') (hF : 0 < ls.length → ∀ i, v.ownBlock = some i → ¬ F i) : LinksAt w' v ls := by
  obtain ⟨p, c, rfl, hp, hc, h⟩ := h
  refine ⟨p, c, rfl, hp, hc, fun h0 => ?_⟩
  obtain ⟨g, o, rfl, hr⟩ := h h0
  exact ⟨g, o, rfl, fun i l hl => k.rangeAt (hr i l hl) (hF h0 g rfl)⟩
theorem LinksAt.keep {w w' : World} {v : Value} {ls : List LinkD} (h : LinksAt w v ls) (k : Keeps (fun _ => False) w w') : LinksAt w' v ls := h.keepF k (fun _ _ _ f => f)
theorem LinksAt.nil (w : World) : LinksAt w (.slice none 0 0) [] := ⟨none, 0, rfl, fun _ => rfl, Nat.le_refl _, fun h => by simp at h⟩
def withinB (n lo hi : Int) : Bool := decide (lo ≤ n ∧ n ≤ hi)
def wrongB (l : LinkD) : Bool := !withinB l.type 1 4 || !withinB l.cost 0 65535
def anyFrom (ls : List LinkD) (k : Nat) : Bool := (ls.drop k).any wrongB
theorem anyFrom_step (ls : List LinkD) (k : Nat) (l : LinkD) (h : ls[k]? = some l) : anyFrom ls k = (wrongB l || anyFrom ls (k + 1)) := by
  obtain ⟨hk, rfl⟩ := List.getElem?_eq_some_iff.1 h
  unfold anyFrom
  rw [List.drop_eq_getElem_cons hk, List.any_cons]
theorem anyFrom_end (ls : List LinkD) : anyFrom ls ls.length = false := by unfold anyFrom; simp
end Go.Proofs.YtialookpnoaogaaGreat
/- What an Lsa may be: lsa.canBe, walked. -/
namespace Go.Proofs.YtialookpnoaogaaGreat
open Go.RowKit

/-- an Lsa, plain -/
structure LsaD where
  age : Int
  type : Int
  id : Nat
  adv : Nat
  seq : Int
  links : List LinkD
  mask : Nat
  routers : List Nat
  cost : Int
structure LsaD.ok (l : LsaD) : Prop where
  age : -9223372036854775808 ≤ l.age ∧ l.age ≤ 9223372036854775807
  type : -9223372036854775808 ≤ l.type ∧ l.type ≤ 9223372036854775807
  id : l.id < 4294967296
  adv : l.adv < 4294967296
  seq : -9223372036854775808 ≤ l.seq ∧ l.seq ≤ 9223372036854775807
  links : ∀ k ∈ l.links, k.ok
  mask : l.mask < 4294967296
  routers : Small l.routers
  cost : -9223372036854775808 ≤ l.cost ∧ l.cost ≤ 9223372036854775807
def lsaVals (l : LsaD) (sl sr : Value) : List Value := [.int .i64 l.age, .int .i64 l.type, .int .u32 l.id, .int .u32 l.adv, .int .i64 l.seq, sl, .int .u32 l.mask, sr, .int .i64 l.cost]
/-- may it be: what it tells, by its type -/
def toldB (l : LsaD) : Bool :=
  if l.type = 1 then decide (l.links.length ≤ 40) && (!l.links.any wrongB && (decide (l.mask = 0) && (decide (l.routers.length = 0) && decide (l.cost = 0))))
  else if l.type = 2 then decide (l.links.length = 0) && (withinB l.routers.length 1 40 && decide (l.cost = 0))
  else if l.type = 3 then decide (l.links.length = 0) && (decide (l.routers.length = 0) && withinB l.cost 0 16777215)
  else false
def canB (l : LsaD) : Bool := withinB l.age 0 3600 && (withinB l.seq (-2147483647) 2147483647 && toldB l)

theorem two_ways (a b : Bool) : a = false ∨ (a = true ∧ b = false) ∨ (a = true ∧ b = true) := by cases a <;> cases b <;> simp
theorem three_ways (a b c : Bool) : a = false ∨ (a = true ∧ b = false) ∨ (a = true ∧ b = true ∧ c = false) ∨ (a = true ∧ b = true ∧ c = true) := by cases a <;> cases b <;> cases c <;> simp
theorem five_ways (a b c d e : Bool) : a = false ∨ (a = true ∧ b = false) ∨ (a = true ∧ b = true ∧ c = false) ∨ (a = true ∧ b = true ∧ c = true ∧ d = false) ∨ (a = true ∧ b = true ∧ c = true ∧ d = true ∧ e = false) ∨ (a = true ∧ b = true ∧ c = true ∧ d = true ∧ e = true) := by cases a <;> cases b <;> cases c <;> cases d <;> cases e <;> simp
theorem nat_beq_true {a b : Nat} (h : decide (a = b) = true) : ((a : Int) == (b : Int)) = true := by rw [beq_iff_eq]; have := of_decide_eq_true h; omega
theorem nat_beq_false {a b : Nat} (h : decide (a = b) = false) : ((a : Int) == (b : Int)) = false := by rw [beq_eq_false_iff_ne]; have := of_decide_eq_false h; omega

end Go.Proofs.YtialookpnoaogaaGreat
