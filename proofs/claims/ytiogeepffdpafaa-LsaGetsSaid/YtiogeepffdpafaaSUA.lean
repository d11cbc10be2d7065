/- Sums: RFC 1071's and Fletcher's, plain. -/
import Derived.Test.YtiogeepffdpafaaBY
namespace Go.Proofs.Ytiogeepffdpafaa

/-- of 65535 the rest, 65535 in place of 0, but 0 of 0 -/
def cnorm (s : Nat) : Nat := if s = 0 then 0 else (s - 1) % 65535 + 1
theorem cnorm_le (s : Nat) : cnorm s ≤ 65535 := by unfold cnorm; split <;> omega
theorem cnorm_small {s : Nat} (h : s ≤ 65535) : cnorm s = s := by unfold cnorm; split <;> omega
theorem cnorm_fold {s : Nat} (h : 65536 ≤ s) : cnorm (s % 65536 + s / 65536) = cnorm s := by unfold cnorm; split <;> split <;> omega
theorem cnorm_add (a x : Nat) : cnorm (cnorm a + x) = cnorm (a + x) := by
  unfold cnorm; split
  · subst_vars; simp
  · split <;> split <;> omega
/-- by bytes: whether the next one counts 256 times -/
def isum : Bool → List UInt8 → Nat
  | _, [] => 0
  | true, c :: l => c.toNat * 256 + isum false l
  | false, c :: l => c.toNat + isum true l
def par (n : Nat) : Bool := decide (n % 2 = 0)
theorem par_succ (n : Nat) : par (n + 1) = !par n := by unfold par; rw [← decide_not, decide_eq_decide]; omega
theorem isum_snoc (l : List UInt8) : ∀ (b : Bool) (c : UInt8), isum b (l ++ [c]) = isum b l + (if (if par l.length then b else !b) then c.toNat * 256 else c.toNat) := by
  induction l with
  | nil => intro b c; cases b <;> simp [isum, par]
  | cons x l ih =>
    intro b c
    rw [List.length_cons, par_succ]
    cases b
    · show x.toNat + isum true (l ++ [c]) = x.toNat + isum true l + _
      rw [ih, Nat.add_assoc]; cases par l.length <;> rfl
    · show x.toNat * 256 + isum false (l ++ [c]) = x.toNat * 256 + isum false l + _
      rw [ih, Nat.add_assoc]; cases par l.length <;> rfl
def inet (l : List UInt8) : Nat := 65535 - cnorm (isum true l)
theorem isum_le (l : List UInt8) : ∀ b, isum b l ≤ 65280 * l.length := by
  induction l with
  | nil => intro b; cases b <;> simp [isum]
  | cons x l ih =>
    intro b
    have := x.toNat_lt
    cases b
    · have := ih true; simp only [isum, List.length_cons]; omega
    · have := ih false; simp only [isum, List.length_cons]; omega
/-- with the sum behind it the sum is nought -/
theorem inet_with (l : List UInt8) (h : l.length % 2 = 0) (hi lo : UInt8) (h1 : hi.toNat = inet l / 256) (h2 : lo.toNat = inet l % 256) : inet (l ++ [hi, lo]) = 0 := by
  have e : l ++ [hi, lo] = (l ++ [hi]) ++ [lo] := by simp
  have p1 : par l.length = true := by unfold par; simp [h]
  have p2 : par (l ++ [hi]).length = false := by unfold par; simp; omega
  have hs : isum true (l ++ [hi, lo]) = isum true l + inet l := by
    rw [e, isum_snoc, isum_snoc, p1, p2]
    simp only [if_true, Bool.false_eq_true, if_false, Bool.not_true]
    rw [h1, h2]; omega
  have hc := cnorm_le (isum true l)
  have hk : cnorm (isum true l + inet l) = 65535 := by
    unfold inet
    generalize isum true l = s at *
    rcases Nat.eq_zero_or_pos s with rfl | h0
    · decide
    · have e : cnorm s = (s - 1) % 65535 + 1 := by unfold cnorm; rw [if_neg (by omega)]
      rw [e]; unfold cnorm; rw [if_neg (by omega)]; omega
  show 65535 - cnorm _ = 0
  rw [hs, hk]

/-- Fletcher's two sums -/
def fl0 (l : List UInt8) : Nat := l.foldl (fun c x => (c + x.toNat) % 255) 0
def fl (p : Nat × Nat) (l : List UInt8) : Nat × Nat := l.foldl (fun q x => ((q.1 + x.toNat) % 255, (q.2 + (q.1 + x.toNat) % 255) % 255)) p
theorem fl_append (p : Nat × Nat) (l m : List UInt8) : fl p (l ++ m) = fl (fl p l) m := List.foldl_append ..
theorem fl_cons (p : Nat × Nat) (x : UInt8) (l : List UInt8) : fl p (x :: l) = fl ((p.1 + x.toNat) % 255, (p.2 + (p.1 + x.toNat) % 255) % 255) l := rfl
theorem fl_lt (l : List UInt8) : ∀ p : Nat × Nat, p.1 < 255 → p.2 < 255 → (fl p l).1 < 255 ∧ (fl p l).2 < 255 := by
  induction l with
  | nil => intro p h1 h2; exact ⟨h1, h2⟩
  | cons x l ih => intro p _ _; rw [fl_cons]; exact ih _ (Nat.mod_lt _ (by omega)) (Nat.mod_lt _ (by omega))
/-- what bytes add to both sums: plainly, and by their places from the end -/
def s0 (l : List UInt8) : Nat := match l with | [] => 0 | x :: l => x.toNat + s0 l
def s1 (l : List UInt8) : Nat := match l with | [] => 0 | x :: l => x.toNat * (l.length + 1) + s1 l
theorem s0_append (l m : List UInt8) : s0 (l ++ m) = s0 l + s0 m := by
  induction l with
  | nil => simp [s0]
  | cons x l ih => simp only [List.cons_append, s0, ih]; omega
theorem s1_append (l m : List UInt8) : s1 (l ++ m) = s1 l + s0 l * m.length + s1 m := by
  induction l with
  | nil => simp [s0, s1]
  | cons x l ih =>
    simp only [List.cons_append, s0, s1, ih, List.length_append]
    rw [Nat.add_mul (x.toNat), show x.toNat * (l.length + m.length + 1) = x.toNat * (l.length + 1) + x.toNat * m.length by rw [← Nat.mul_add]; congr 1; omega]
    omega
theorem fl_eq (l : List UInt8) : ∀ p : Nat × Nat, p.1 < 255 → p.2 < 255 → fl p l = ((p.1 + s0 l) % 255, (p.2 + p.1 * l.length + s1 l) % 255) := by
  induction l with
  | nil => intro p h1 h2; simp [fl, s0, s1]; ext <;> simp <;> omega
  | cons x l ih =>
    intro p h1 h2
    rw [fl_cons, ih _ (Nat.mod_lt _ (by omega)) (Nat.mod_lt _ (by omega))]
    simp only [s0, s1, List.length_cons]
    refine Prod.ext (by simp only; omega) ?_
    simp only
    generalize s1 l = t
    generalize l.length = n
    generalize hx : x.toNat = y
    obtain ⟨a, b⟩ := p
    simp only at h1 h2 ⊢
    have e : (a + y) % 255 * n % 255 = (a + y) * n % 255 := by rw [Nat.mod_mul_mod]
    have e2 : a * (n + 1) + y * (n + 1) = (a + y) * n + (a + y) := by rw [← Nat.add_mul, Nat.mul_add]; omega
    have e3 : ((b + (a + y) % 255) % 255 + (a + y) % 255 * n + t) % 255 = (b + (a + y) + (a + y) % 255 * n + t) % 255 := by omega
    rw [e3]
    generalize (a + y) % 255 * n = u at *
    generalize (a + y) * n = v at *
    omega
theorem s0_set (l : List UInt8) (c : UInt8) : ∀ i : Nat, (h : i < l.length) → s0 (l.set i c) + l[i].toNat = s0 l + c.toNat := by
  induction l with
  | nil => intro i h; simp at h
  | cons x l ih =>
    intro i h
    cases i with
    | zero => simp only [List.set_cons_zero, s0, List.getElem_cons_zero]; omega
    | succ i =>
      have := ih i (by simpa using h)
      simp only [List.set_cons_succ, s0, List.getElem_cons_succ]; omega
theorem s1_set (l : List UInt8) (c : UInt8) : ∀ i : Nat, (h : i < l.length) → s1 (l.set i c) + l[i].toNat * (l.length - i) = s1 l + c.toNat * (l.length - i) := by
  induction l with
  | nil => intro i h; simp at h
  | cons x l ih =>
    intro i h
    cases i with
    | zero => simp only [List.set_cons_zero, s1, List.getElem_cons_zero, List.length_cons, Nat.sub_zero]; omega
    | succ i =>
      have := ih i (by simpa using h)
      simp only [List.set_cons_succ, s1, List.getElem_cons_succ, List.length_cons, List.length_set]
      rw [show l.length + 1 - (i + 1) = l.length - i by omega]; omega
def rightF (l : List UInt8) : Bool := decide (s0 l % 255 = 0 ∧ s1 l % 255 = 0)
theorem fl_zero (l : List UInt8) : fl (0, 0) l = (s0 l % 255, s1 l % 255) := by rw [fl_eq _ _ (by decide) (by decide)]; simp
/-- one byte turned: right no more, but where both are alike -/
theorem right_set {l : List UInt8} (i : Nat) (h : i < l.length) (c : UInt8) (hr : rightF l = true) : rightF (l.set i c) = decide (l[i].toNat % 255 = c.toNat % 255) := by
  unfold rightF at *
  rw [decide_eq_true_eq] at hr
  have h0 := s0_set l c i h
  have h1 := s1_set l c i h
  rw [decide_eq_decide]
  constructor
  · rintro ⟨a, _⟩; omega
  · intro e
    refine ⟨by omega, ?_⟩
    have e1 : l[i].toNat * (l.length - i) % 255 = c.toNat * (l.length - i) % 255 := by rw [Nat.mul_mod, e, ← Nat.mul_mod]
    omega
/-- l with noughts at k and k + 1 -/
def zed (l : List UInt8) (k : Nat) : List UInt8 := (l.set k 0).set (k + 1) 0
theorem zed_len (l : List UInt8) (k : Nat) : (zed l k).length = l.length := by unfold zed; simp
theorem zed_eq {l : List UInt8} {k : Nat} (h : k + 2 ≤ l.length) : l.take k ++ [0, 0] ++ l.drop (k + 2) = zed l k := by
  unfold zed
  apply List.ext_getElem?
  intro j
  have h1 : (l.take k).length = k := by simp; omega
  rw [List.append_assoc, List.getElem?_append, h1, List.getElem?_set, List.getElem?_set, List.getElem?_take]
  simp only [List.length_set]
  by_cases a : j < k
  · rw [if_pos a, if_pos a, if_neg (by omega), if_neg (by omega)]
  · rw [if_neg a]
    by_cases b : j = k
    · subst b; rw [if_neg (by omega), if_pos rfl, if_pos (by omega)]; simp
    · by_cases c : j = k + 1
      · subst c; rw [if_pos rfl, if_pos (by omega), show k + 1 - k = 1 by omega]; rfl
      · rw [if_neg (by omega), if_neg (by omega), List.getElem?_append, if_neg (by simp; omega), List.getElem?_drop]; congr 1; simp; omega
theorem zed_get {l : List UInt8} {k j : Nat} (h : j < l.length) : (zed l k)[j]'(by rw [zed_len]; exact h) = if j = k ∨ j = k + 1 then 0 else l[j] := by
  unfold zed
  rw [List.getElem_set, List.getElem_set]
  by_cases a : k + 1 = j
  · rw [if_pos a, if_pos (.inr a.symm)]
  · rw [if_neg a]
    by_cases b : k = j
    · rw [if_pos b, if_pos (.inl b.symm)]
    · rw [if_neg b, if_neg (by omega)]
def flX (z : List UInt8) (n k : Nat) : Nat := ((n - k - 1) % 255 * (s0 z % 255) + 255 - s1 z % 255) % 255
def flY (z : List UInt8) (n k : Nat) : Nat := (510 - s0 z % 255 - flX z n k) % 255
theorem flX_lt (z : List UInt8) (n k : Nat) : flX z n k < 255 := Nat.mod_lt _ (by omega)
theorem flY_lt (z : List UInt8) (n k : Nat) : flY z n k < 255 := Nat.mod_lt _ (by omega)
theorem fl_cond {s t q p x : Nat} (hs : s < 255) (ht : t < 255) (hx : x < 255) (hp : p % 255 = (q + 1) % 255) :
    (t + x * p + (510 - s - x) % 255 * q) % 255 = 0 ↔ x = (q * s + 255 - t) % 255 := by
  have h1 : x * p % 255 = (x * q + x) % 255 := by rw [Nat.mul_mod, hp, ← Nat.mul_mod, Nat.mul_add, Nat.mul_one]
  obtain ⟨y, hy⟩ : ∃ y, y = (510 - s - x) % 255 := ⟨_, rfl⟩
  obtain ⟨k, hk⟩ : ∃ k, k = (510 - s - x) / 255 := ⟨_, rfl⟩
  have h2 : y + s + x + 255 * k = 510 := by omega
  rw [← hy]
  have h3 : y * q + s * q + x * q + 255 * (k * q) = 510 * q := by
    have := congrArg (· * q) h2
    simp only [Nat.add_mul] at this
    rw [Nat.mul_assoc] at this
    exact this
  have hqs : q * s = s * q := Nat.mul_comm _ _
  rw [hqs]
  generalize x * p = a at *
  generalize x * q = b at *
  generalize y * q = c at *
  generalize s * q = d at *
  generalize k * q = e at *
  omega
/-- the two bytes make it right -/
theorem right_with {l : List UInt8} {k : Nat} (h : k + 2 ≤ l.length) (x y : UInt8) (hx : x.toNat = flX (zed l k) l.length k) (hy : y.toNat = flY (zed l k) l.length k) : rightF ((l.set k x).set (k + 1) y) = true := by
  have e : (l.set k x).set (k + 1) y = ((zed l k).set k x).set (k + 1) y := by
    unfold zed
    rw [List.set_comm _ _ (show k + 1 ≠ k by omega), List.set_set, List.set_set]
  have z0 : (zed l k)[k]'(by rw [zed_len]; omega) = 0 := by rw [zed_get (by omega), if_pos (.inl rfl)]
  have z1 : (zed l k)[k + 1]'(by rw [zed_len]; omega) = 0 := by rw [zed_get (by omega), if_pos (.inr rfl)]
  have hl := zed_len l k
  have a0 := s0_set (zed l k) x k (by omega)
  have a1 := s1_set (zed l k) x k (by omega)
  rw [z0] at a0 a1
  have b0 := s0_set ((zed l k).set k x) y (k + 1) (by simp; omega)
  have b1 := s1_set ((zed l k).set k x) y (k + 1) (by simp; omega)
  rw [List.getElem_set_ne (by omega), z1] at b0 b1
  rw [List.length_set] at b1
  rw [e]
  unfold rightF
  rw [decide_eq_true_eq]
  have hX := hx; have hY := hy
  unfold flY at hY
  rw [← hX] at hY
  have hxl : x.toNat < 255 := by rw [hx]; exact flX_lt ..
  have hc := (fl_cond (s := s0 (zed l k) % 255) (t := s1 (zed l k) % 255) (q := (l.length - k - 1) % 255) (p := (l.length - k) % 255) (x := x.toNat) (Nat.mod_lt _ (by omega)) (Nat.mod_lt _ (by omega)) hxl (by omega)).2 hX
  rw [← hY] at hc
  have m1 : x.toNat * ((l.length - k) % 255) % 255 = x.toNat * (l.length - k) % 255 := by rw [Nat.mul_mod_mod]
  have m2 : y.toNat * ((l.length - k - 1) % 255) % 255 = y.toNat * (l.length - k - 1) % 255 := by rw [Nat.mul_mod_mod]
  rw [hl] at a1 b1
  rw [show l.length - (k + 1) = l.length - k - 1 by omega] at b1
  simp only [show (0 : UInt8).toNat = 0 from rfl, Nat.zero_mul, Nat.add_zero] at a0 a1 b0 b1
  rw [b0, b1, a0, a1]
  constructor
  · omega
  · generalize x.toNat * ((l.length - k) % 255) = u at *
    generalize y.toNat * ((l.length - k - 1) % 255) = v at *
    generalize x.toNat * (l.length - k) = u' at *
    generalize y.toNat * (l.length - k - 1) = v' at *
    omega
/-- the document's second sum, as far as i -/
def tsum (z : List UInt8) (i : Nat) : Nat := s1 (z.take i) + s0 (z.take i) * (z.length - i)
theorem tsum_zero (z : List UInt8) : tsum z 0 = 0 := by simp [tsum, s0, s1]
theorem tsum_all (z : List UInt8) : tsum z z.length = s1 z := by simp [tsum]
theorem tsum_succ (z : List UInt8) (i : Nat) (h : i < z.length) : tsum z (i + 1) = tsum z i + z[i].toNat * (z.length - i) := by
  unfold tsum
  rw [List.take_succ_eq_append_getElem h, s1_append, s0_append]
  simp only [s0, s1, List.length_cons, List.length_nil, Nat.add_zero, Nat.zero_add, Nat.mul_one]
  obtain ⟨m, hm⟩ : ∃ m, z.length - i = m + 1 := ⟨z.length - i - 1, by omega⟩
  rw [hm, show z.length - (i + 1) = m by omega, Nat.add_mul, Nat.mul_add, Nat.mul_add]; omega
theorem s0_snoc (z : List UInt8) (i : Nat) (h : i < z.length) : s0 (z.take (i + 1)) = s0 (z.take i) + z[i].toNat := by
  rw [List.take_succ_eq_append_getElem h, s0_append]; simp [s0]
end Go.Proofs.Ytiogeepffdpafaa
