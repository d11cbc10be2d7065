/- Sums: RFC 1071's and Fletcher's, plain. -/
import Derived.Test.YtdaongflpllfhaaLS01
import Derived.Deep.RegionHeld3
set_option linter.unusedVariables false
set_option linter.unusedSimpArgs false
namespace Go.Proofs.Ytdaongflpllfhaa

/-- of 65535 the rest, 65535 in place of 0, but 0 of 0 -/
def cnorm (s : Nat) : Nat := if s = 0 then 0 else (s - 1) % 65535 + 1
theorem cnorm_le (s : Nat) : cnorm s ≤ 65535 := by unfold cnorm; split <;> omega
theorem cnorm_small {s : Nat} (h : s ≤ 65535) : cnorm s = s := by unfold cnorm; split <;> omega
theorem cnorm_fold {s : Nat} (h : 65536 ≤ s) : cnorm (s % 65536 + s / 65536) = cnorm s := by unfold cnorm; split <;> split <;> omega
theorem cnorm_add (a x : Nat) : cnorm (cnorm a + x) = cnorm (a + x) := by
  unfold cnorm; split
  · subst_vars; simp
  · split <;> split <;> omega
/-- by bytes: whether the next one counts 256 times -/
def isum : Bool → List UInt8 → Nat
  | _, [] => 0
  | true, c :: l => c.toNat * 256 + isum false l
  | false, c :: l => c.toNat + isum true l
def par (n : Nat) : Bool := decide (n % 2 = 0)
theorem par_succ (n : Nat) : par (n + 1) = !par n := by unfold par; rw [← decide_not, decide_eq_decide]; omega
theorem isum_snoc (l : List UInt8) : ∀ (b : Bool) (c : UInt8), isum b (l ++ [c]) = isum b l + (if (if par l.length then b else !b) then c.toNat * 256 else c.toNat) := by
  induction l with
  | nil => intro b c; cases b <;> simp [isum, par]
  | cons x l ih =>
    intro b c
    rw [List.length_cons, par_succ]
    cases b
    · show x.toNat + isum true (l ++ [c]) = x.toNat + isum true l + _
      rw [ih, Nat.add_assoc]; cases par l.length <;> rfl
    · show x.toNat * 256 + isum false (l ++ [c]) = x.toNat * 256 + isum false l + _
      rw [ih, Nat.add_assoc]; cases par l.length <;> rfl
def inet (l : List UInt8) : Nat := 65535 - cnorm (isum true l)
theorem isum_le (l : List UInt8) : ∀ b, isum b l ≤ 65280 * l.length := by
  induction l with
  | nil => intro b; cases b <;> simp [isum]
  | cons x l ih =>
    intro b
    have := x.toNat_lt
    cases b
    · have := ih true; simp only [isum, List.length_cons]; omega
    · have := ih false; simp only [isum, List.length_cons]; omega
/-- with the sum behind it the sum is nought -/
theorem inet_with (l : List UInt8) (h : l.length % 2 = 0) (hi lo : UInt8) (h1 : hi.toNat = inet l / 256) (h2 : lo.toNat = inet l % 256) : inet (l ++ [hi, lo]) = 0 := by
  have e : l ++ [hi, lo] = (l ++ [hi]) ++ [lo] := by simp
  have p1 : par l.length = true := by unfold par; simp [h]
  have p2 : par (l ++ [hi]).length = false := by unfold par; simp; omega
  have hs : isum true (l ++ [hi, lo]) = isum true l + inet l := by
    rw [e, isum_snoc, isum_snoc, p1, p2]
    simp only [if_true, Bool.false_eq_true, if_false, Bool.not_true]
    rw [h1, h2]; omega
  have hc := cnorm_le (isum true l)
  have hk : cnorm (isum true l + inet l) = 65535 := by
    unfold inet
    generalize isum true l = s at *
    rcases Nat.eq_zero_or_pos s with rfl | h0
    · decide
    · have e : cnorm s = (s - 1) % 65535 + 1 := by unfold cnorm; rw [if_neg (by omega)]
      rw [e]; unfold cnorm; rw [if_neg (by omega)]; omega
  show 65535 - cnorm _ = 0
  rw [hs, hk]

/-- Fletcher's two sums -/
def fl0 (l : List UInt8) : Nat := l.foldl (fun c x => (c + x.toNat) % 255) 0
def fl (p : Nat × Nat) (l : List UInt8) : Nat × Nat := l.foldl (fun q x => ((q.1 + x.toNat) % 255, (q.2 + (q.1 + x.toNat) % 255) % 255)) p
theorem fl_append (p : Nat × Nat) (l m : List UInt8) : fl p (l ++ m) = fl (fl p l) m := List.foldl_append ..
theorem fl_cons (p : Nat × Nat) (x : UInt8) (l : List UInt8) : fl p (x :: l) = fl ((p.1 + x.toNat) % 255, (p.2 + (p.1 + x.toNat) % 255) % 255) l := rfl
theorem fl_lt (l : List UInt8) : ∀ p : Nat × Nat, p.1 < 255 → p.2 < 255 → (fl p l).1 < 255 ∧ (fl p l).2 < 255 := by
  induction l with
  | nil => intro p h1 h2; exact ⟨h1, h2⟩
  | cons x l ih => intro p _ _; rw [fl_cons]; exact ih _ (Nat.mod_lt _ (by omega)) (Nat.mod_lt _ (by omega))
/-- what bytes add to both sums: plainly, and by their places from the end -/
def s0 (l : List UInt8) : Nat := match l with | [] => 0 | x :: l => x.toNat + s0 l
def s1 (l : List UInt8) : Nat := match l with | [] => 0 | x :: l => x.toNat * (l.length + 1) + s1 l
theorem s0_append (l m : List UInt8) : s0 (l ++ m) = s0 l + s0 m := by
  induction l with
  | nil => simp [s0]
  | cons x l ih => simp only [List.cons_append, s0, ih]; omega
theorem s1_append (l m : List UInt8) : s1 (l ++ m) = s1 l + s0 l * m.length + s1 m := by
  induction l with
  | nil => simp [s0, s1]
  | cons x l ih =>
    simp only [List.cons_append, s0, s1, ih, List.length_append]
    rw [Nat.add_mul (x.toNat), show x.toNat * (l.length + m.length + 1) = x.toNat * (l.length + 1) + x.toNat * m.length by rw [← Nat.mul_add]; congr 1; omega]
    omega
theorem fl_eq (l : List UInt8) : ∀ p : Nat × Nat, p.1 < 255 → p.2 < 255 → fl p l = ((p.1 + s0 l) % 255, (p.2 + p.1 * l.length + s1 l) % 255) := by
  induction l with
  | nil => intro p h1 h2; simp [fl, s0, s1]; ext <;> simp <;> omega
  | cons x l ih =>
    intro p h1 h2
    rw [fl_cons, ih _ (Nat.mod_lt _ (by omega)) (Nat.mod_lt _ (by omega))]
    simp only [s0, s1, List.length_cons]
    refine Prod.ext (by simp only; omega) ?_
    simp only
    generalize s1 l = t
    generalize l.length = n
    generalize hx : x.toNat = y
    obtain ⟨a, b⟩ := p
    simp only at h1 h2 ⊢
    have e : (a + y) % 255 * n % 255 = (a + y) * n % 255 := by rw [Nat.mod_mul_mod]
    have e2 : a * (n + 1) + y * (n + 1) = (a + y) * n + (a + y) := by rw [← Nat.add_mul, Nat.mul_add]; omega
    have e3 : ((b + (a + y) % 255) % 255 + (a + y) % 255 * n + t) % 255 = (b + (a + y) + (a + y) % 255 * n + t) % 255 := by omega
    rw [e3]
    generalize (a + y) % 255 * n = u at *
    generalize (a + y) * n = v at *
    omega
theorem s0_set (l : List UInt8) (c : UInt8) : ∀ i : Nat, (h : i < l.length) → s0 (l.set i c) + l[i].toNat = s0 l + c.toNat := by
  induction l with
  | nil => intro i h; simp at h
  | cons x l ih =>
    intro i h
    cases i with
    | zero => simp only [List.set_cons_zero, s0, List.getElem_cons_zero]; omega
    | succ i =>
      have := ih i (by simpa using h)
      simp only [List.set_cons_succ, s0, List.getElem_cons_succ]; omega
theorem s1_set (l : List UInt8) (c : UInt8) : ∀ i : Nat, (h : i < l.length) → s1 (l.set i c) + l[i].toNat * (l.length - i) = s1 l + c.toNat * (l.length - i) := by
  induction l with
  | nil => intro i h; simp at h
  | cons x l ih =>
    intro i h
    cases i with
    | zero => simp only [List.set_cons_zero, s1, List.getElem_cons_zero, List.length_cons, Nat.sub_zero]; omega
    | succ i =>
      have := ih i (by simpa using h)
      simp only [List.set_cons_succ, s1, List.getElem_cons_succ, List.length_cons, List.length_set]
      rw [show l.length + 1 - (i + 1) = l.length - i by omega]; omega
def rightF (l : List UInt8) : Bool := decide (s0 l % 255 = 0 ∧ s1 l % 255 = 0)
theorem fl_zero (l : List UInt8) : fl (0, 0) l = (s0 l % 255, s1 l % 255) := by rw [fl_eq _ _ (by decide) (by decide)]; simp
/-- one byte turned: right no more, but where both are alike -/
theorem right_set {l : List UInt8} (i : Nat) (h : i < l.length) (c : UInt8) (hr : rightF l = true) : rightF (l.set i c) = decide (l[i].toNat % 255 = c.toNat % 255) := by
  unfold rightF at *
  rw [decide_eq_true_eq] at hr
  have h0 := s0_set l c i h
  have h1 := s1_set l c i h
  rw [decide_eq_decide]
  constructor
  · rintro ⟨a, _⟩; omega
  · intro e
    refine ⟨by omega, ?_⟩
    have e1 : l[i].toNat * (l.length - i) % 255 = c.toNat * (l.length - i) % 255 := by rw [Nat.mul_mod, e, ← Nat.mul_mod]
    omega
/-- l with noughts at k and k + 1 -/
def zed (l : List UInt8) (k : Nat) : List UInt8 := (l.set k 0).set (k + 1) 0
theorem zed_len (l : List UInt8) (k : Nat) : (zed l k).length = l.length := by unfold zed; simp
theorem zed_eq {l : List UInt8} {k : Nat} (h : k + 2 ≤ l.length) : l.take k ++ [0, 0] ++ l.drop (k + 2) = zed l k := by
  unfold zed
  apply List.ext_getElem?
  intro j
  have h1 : (l.take k).length = k := by simp; omega
  rw [List.append_assoc, List.getElem?_append, h1, List.getElem?_set, List.getElem?_set, List.getElem?_take]
  simp only [List.length_set]
  by_cases a : j < k
  · rw [if_pos a, if_pos a, if_neg (by omega), if_neg (by omega)]
  · rw [if_neg a]
    by_cases b : j = k
    · subst b; rw [if_neg (by omega), if_pos rfl, if_pos (by omega)]; simp
    · by_cases c : j = k + 1
      · subst c; rw [if_pos rfl, if_pos (by omega), show k + 1 - k = 1 by omega]; rfl
      · rw [if_neg (by omega), if_neg (by omega), List.getElem?_append, if_neg (by simp; omega), List.getElem?_drop]; congr 1; simp; omega
theorem zed_get {l : List UInt8} {k j : Nat} (h : j < l.length) : (zed l k)[j]'(by rw [zed_len]; exact h) = if j = k ∨ j = k + 1 then 0 else l[j] := by
  unfold zed
  rw [List.getElem_set, List.getElem_set]
  by_cases a : k + 1 = j
  · rw [if_pos a, if_pos (.inr a.symm)]
  · rw [if_neg a]
    by_cases b : k = j
    · rw [if_pos b, if_pos (.inl b.symm)]
    · rw [if_neg b, if_neg (by omega)]
def flX (z : List UInt8) (n k : Nat) : Nat := ((n - k - 1) % 255 * (s0 z % 255) + 255 - s1 z % 255) % 255
def flY (z : List UInt8) (n k : Nat) : Nat := (510 - s0 z % 255 - flX z n k) % 255
theorem flX_lt (z : List UInt8) (n k : Nat) : flX z n k < 255 := Nat.mod_lt _ (by omega)
theorem flY_lt (z : List UInt8) (n k : Nat) : flY z n k < 255 := Nat.mod_lt _ (by omega)
theorem fl_cond {s t q p x : Nat} (hs : s < 255) (ht : t < 255) (hx : x < 255) (hp : p % 255 = (q + 1) % 255) :
    (t + x * p + (510 - s - x) % 255 * q) % 255 = 0 ↔ x = (q * s + 255 - t) % 255 := by
  have h1 : x * p % 255 = (x * q + x) % 255 := by rw [Nat.mul_mod, hp, ← Nat.mul_mod, Nat.mul_add, Nat.mul_one]
  obtain ⟨y, hy⟩ : ∃ y, y = (510 - s - x) % 255 := ⟨_, rfl⟩
  obtain ⟨k, hk⟩ : ∃ k, k = (510 - s - x) / 255 := ⟨_, rfl⟩
  have h2 : y + s + x + 255 * k = 510 := by omega
  rw [← hy]
  have h3 : y * q + s * q + x * q + 255 * (k * q) = 510 * q := by
    have := congrArg (· * q) h2
    simp only [Nat.add_mul] at this
    rw [Nat.mul_assoc] at this
    exact this
  have hqs : q * s = s * q := Nat.mul_comm _ _
  rw [hqs]
  generalize x * p = a at *
  generalize x * q = b at *
  generalize y * q = c at *
  generalize s * q = d at *
  generalize k * q = e at *
  omega
/-- the two bytes make it right -/
theorem right_with {l : List UInt8} {k : Nat} (h : k + 2 ≤ l.length) (x y : UInt8) (hx : x.toNat = flX (zed l k) l.length k) (hy : y.toNat = flY (zed l k) l.length k) : rightF ((l.set k x).set (k + 1) y) = true := by
  have e : (l.set k x).set (k + 1) y = ((zed l k).set k x).set (k + 1) y := by
    unfold zed
    rw [List.set_comm _ _ (show k + 1 ≠ k by omega), List.set_set, List.set_set]
  have z0 : (zed l k)[k]'(by rw [zed_len]; omega) = 0 := by rw [zed_get (by omega), if_pos (.inl rfl)]
  have z1 : (zed l k)[k + 1]'(by rw [zed_len]; omega) = 0 := by rw [zed_get (by omega), if_pos (.inr rfl)]
  have hl := zed_len l k
  have a0 := s0_set (zed l k) x k (by omega)
  have a1 := s1_set (zed l k) x k (by omega)
  rw [z0] at a0 a1
  have b0 := s0_set ((zed l k).set k x) y (k + 1) (by simp; omega)
  have b1 := s1_set ((zed l k).set k x) y (k + 1) (by simp; omega)
  rw [List.getElem_set_ne (by omega), z1] at b0 b1
  rw [List.length_set] at b1
  rw [e]
  unfold rightF
  rw [decide_eq_true_eq]
  have hX := hx; have hY := hy
  unfold flY at hY
  rw [← hX] at hY
  have hxl : x.toNat < 255 := by rw [hx]; exact flX_lt ..
  have hc := (fl_cond (s := s0 (zed l k) % 255) (t := s1 (zed l k) % 255) (q := (l.length - k - 1) % 255) (p := (l.length - k) % 255) (x := x.toNat) (Nat.mod_lt _ (by omega)) (Nat.mod_lt _ (by omega)) hxl (by omega)).2 hX
  rw [← hY] at hc
  have m1 : x.toNat * ((l.length - k) % 255) % 255 = x.toNat * (l.length - k) % 255 := by rw [Nat.mul_mod_mod]
  have m2 : y.toNat * ((l.length - k - 1) % 255) % 255 = y.toNat * (l.length - k - 1) % 255 := by rw [Nat.mul_mod_mod]
  rw [hl] at a1 b1
  rw [show l.length - (k + 1) = l.length - k - 1 by omega] at b1
  simp only [show (0 : UInt8).toNat = 0 from rfl, Nat.zero_mul, Nat.add_zero] at a0 a1 b0 b1
  rw [b0, b1, a0, a1]
  constructor
  · omega
  · generalize x.toNat * ((l.length - k) % 255) = u at *
    generalize y.toNat * ((l.length - k - 1) % 255) = v at *
    generalize x.toNat * (l.length - k) = u' at *
    generalize y.toNat * (l.length - k - 1) = v' at *
    omega
/-- the document's second sum, as far as i -/
def tsum (z : List UInt8) (i : Nat) : Nat := s1 (z.take i) + s0 (z.take i) * (z.length - i)
theorem tsum_zero (z : List UInt8) : tsum z 0 = 0 := by simp [tsum, s0, s1]
theorem tsum_all (z : List UInt8) : tsum z z.length = s1 z := by simp [tsum]
theorem tsum_succ (z : List UInt8) (i : Nat) (h : i < z.length) : tsum z (i + 1) = tsum z i + z[i].toNat * (z.length - i) := by
  unfold tsum
  rw [List.take_succ_eq_append_getElem h, s1_append, s0_append]
  simp only [s0, s1, List.length_cons, List.length_nil, Nat.add_zero, Nat.zero_add, Nat.mul_one]
  obtain ⟨m, hm⟩ : ∃ m, z.length - i = m + 1 := ⟨z.length - i - 1, by omega⟩
  rw [hm, show z.length - (i + 1) = m by omega, Nat.add_mul, Nat.mul_add, Nat.mul_add]; omega
theorem s0_snoc (z : List UInt8) (i : Nat) (h : i < z.length) : s0 (z.take (i + 1)) = s0 (z.take i) + z[i].toNat := by
  rw [List.take_succ_eq_append_getElem h, s0_append]; simp [s0]
end Go.Proofs.Ytdaongflpllfhaa
/- sums.grow, Right, Internet, walked. -/
namespace Go.Proofs.Ytdaongflpllfhaa
open Go.RowKit

theorem ret_int {k : IntKind} {a b : Int} (h : a = b) : Ending.returned (.int k a) = .returned (.int k b) := by rw [h]
theorem ret_pair {k : IntKind} {a b c d : Int} (h : a = c) (h2 : b = d) : Ending.returned (.tuple #[.int k a, .int k b]) = .returned (.tuple #[.int k c, .int k d]) := by rw [h, h2]
theorem drop_cell {w : World} {g o : Nat} {l : List UInt8} (h : w.rangeAt g o (l.map bv)) (k : Nat) (hk : k < l.length) : w.cell? ⟨g, o + k, none⟩ = some (.int .u8 (l[k]).toNat) := h k _ (by simp [hk, bv])

theorem suGrow_any (c0 c1 : Nat) (h0 : c0 < 255) (h1 : c1 < 255) (sl : Value) (l : List UInt8) (hl : l.length ≤ 9223372036854775807) (w : World) (h : Hid (BytesAt w sl l)) :
    Calls Try.prog 110 #[.int .i64 c0, .int .i64 c1, sl] w fun e w' => e = .returned (.tuple #[.int .i64 ((fl (c0, c1) l).1 : Nat), .int .i64 ((fl (c0, c1) l).2 : Nat)]) ∧ w = w' := by
  obtain ⟨p, c, rfl, -, -, hb⟩ := h.out
  have hb' := Lib.hid hb; clear hb h
  go_enter Try.func110, Try.ntmps110
  go_wp2
  go_loop [0, 1, 12] (fun a b iv => ∃ k : Nat, k ≤ l.length ∧ a = .int .i64 ((fl (c0, c1) (l.take k)).1 : Nat) ∧ b = .int .i64 ((fl (c0, c1) (l.take k)).2 : Nat) ∧ iv = .int .i64 k) (fun _ _ iv => l.length - (intOf iv).toNat)
  case atStart => exact ⟨0, by omega, rfl, rfl, rfl⟩
  case round =>
    obtain ⟨k, hk, rfl, rfl, rfl⟩ := hrel
    by_cases hlk : k < l.length
    · obtain ⟨g, o, rfl, hr⟩ := hb'.out (by omega)
      have hc := drop_cell hr k hlk
      have hx := (l[k]).toNat_lt
      obtain ⟨q, hq⟩ : ∃ q, q = fl (c0, c1) (l.take k) := ⟨_, rfl⟩
      have hlt := fl_lt (l.take k) (c0, c1) h0 h1
      have hs : fl (c0, c1) (l.take (k + 1)) = ((q.1 + (l[k]).toNat) % 255, (q.2 + (q.1 + (l[k]).toNat) % 255) % 255) := by
        rw [List.take_succ_eq_append_getElem hlk, fl_append, ← hq]; rfl
      rw [← hq] at hlt ⊢
      obtain ⟨q1, q2⟩ := q
      obtain ⟨hl1, hl2⟩ := hlt
      simp only at hl1 hl2 hs ⊢
      have hs' := Lib.hid hs; have hq' := Lib.hid hq; clear hs hr hq
      go_wp2
      go_round
      case rel => exact ⟨k + 1, by omega, by rw [hs'.out]; go_num, by rw [hs'.out]; go_num, by go_num⟩
      case measure => simp [intOf]; omega
    · obtain rfl : k = l.length := by omega
      rw [List.take_length]
      go_wp2
      go_ret2
      exact ⟨rfl, rfl⟩
theorem suRight_any (sl : Value) (l : List UInt8) (hl : l.length ≤ 9223372036854775807) (w : World) (h : Hid (BytesAt w sl l)) :
    Calls Try.prog 116 #[sl] w fun e w' => e = .returned (.bool (rightF l)) ∧ w = w' := by
  have hf := fl_zero l
  have hr : rightF l = decide ((fl (0, 0) l).1 = 0 ∧ (fl (0, 0) l).2 = 0) := by rw [hf]; rfl
  obtain ⟨q, hq⟩ : ∃ q, q = fl (0, 0) l := ⟨_, rfl⟩
  have hG := suGrow_any 0 0 (by omega) (by omega) sl l hl w h
  rw [← hq] at hr hG
  rw [hr]
  have hG' := Lib.hid hG
  obtain ⟨q1, q2⟩ := q
  clear hf hr hq hG
  by_cases a : q1 = 0
  · by_cases b : q2 = 0
    · subst a; subst b
      go_enter Try.func116, Try.ntmps116
      go_wp2_with (go_at_call 110; refine hG'.out.mono ?_; rintro e w' ⟨rfl, rfl⟩)
      go_ret
      exact ⟨rfl, rfl⟩
    · have e1 : ((q2 : Int) == 0) = false := by rw [beq_eq_false_iff_ne]; omega
      have hz : decide (q1 = 0 ∧ q2 = 0) = false := by simp [b]
      subst a
      rw [show decide ((0, q2).1 = 0 ∧ (0, q2).2 = 0) = false from hz]
      clear hz b
      go_enter Try.func116, Try.ntmps116
      go_wp2_with (go_at_call 110; refine hG'.out.mono ?_; rintro e w' ⟨rfl, rfl⟩)
      go_ret
      exact ⟨rfl, rfl⟩
  · have e1 : ((q1 : Int) == 0) = false := by rw [beq_eq_false_iff_ne]; omega
    have hz : decide (q1 = 0 ∧ q2 = 0) = false := by simp [a]
    rw [show decide ((q1, q2).1 = 0 ∧ (q1, q2).2 = 0) = false from hz]
    clear hz a
    go_enter Try.func116, Try.ntmps116
    go_wp2_with (go_at_call 110; refine hG'.out.mono ?_; rintro e w' ⟨rfl, rfl⟩)
    go_ret
    exact ⟨rfl, rfl⟩
end Go.Proofs.Ytdaongflpllfhaa
/- wire: Lay16, Lay32, Read, walked. -/
namespace Go.Proofs.Ytdaongflpllfhaa
open Go.RowKit

theorem ofNat_mod (m : Nat) : bv (UInt8.ofNat m) = .int .u8 ((m : Int) % 256) := (bv_ofNat m).symm
theorem be2 (n : Nat) : be 2 n = [UInt8.ofNat (n / 256), UInt8.ofNat n] := by simp [be]
theorem be4 (n : Nat) : be 4 n = [UInt8.ofNat (n / 16777216), UInt8.ofNat (n / 65536), UInt8.ofNat (n / 256), UInt8.ofNat n] := by simp [be]
theorem Grown.trans {w wr w2 : World} {v : Value} {q q2 : Option Addr} {n n2 d d2 : Nat} (h : Grown w v q n d wr) (g : Grown wr (.slice q n d) q2 n2 d2 w2) : Grown w v q2 n2 d2 w2 :=
  ⟨h.k.trans' g.k (fun i e => h.s i e), fun k e => by
    rcases g.s k e with e | e
    · exact h.s k e
    · exact .inr (Nat.le_trans h.k.size e)⟩
theorem lt_own {w0 w : World} {v : Value} {xs : List UInt8} (h : OwnB w0 w v xs) (k : Nat) (e : v.ownBlock = some k) : k < w.heap.size := by
  rcases h.1.2 with ⟨rfl, _⟩ | ⟨g, cap, cur, rfl, _, hg, _⟩
  · simp [Value.ownBlock] at e
  · simp only [Value.ownBlock, Option.some.injEq] at e; subst e; exact lt_of_block hg
/-- a call that appends l to a row of bytes of the call's own (own since w0) -/
def Appends (w0 : World) (v : Value) (xs l : List UInt8) (w : World) (e : Ending) (w' : World) : Prop :=
  ∃ p c, e = .returned (.slice p (xs.length + l.length) c) ∧ OwnB w0 w' (.slice p (xs.length + l.length) c) (xs ++ l) ∧ Grown w v p (xs.length + l.length) c w'

set_option maxRecDepth 100000 in
theorem wiLay16_any (w0 : World) (v : Value) (xs : List UInt8) (n : Nat) (hn : n < 65536) (hx : xs.length ≤ 1000000) (w : World) (h : Hid (OwnB w0 w v xs)) :
    Calls Try.prog 44 #[v, .int .u16 n] w (Appends w0 v xs (be 2 n) w) := by
  obtain ⟨i0, hi0, hz0, hz1, hz2⟩ := info_parts u8InfoAll
  have hsrc : Hid (BytesAt (w.alloc (.cells #[.int .u8 ((n : Int) / 256), .int .u8 ((n : Int) % 256)] 5)) (.slice (some ⟨w.heap.size, 0, none⟩) 2 2) (be 2 n)) := Lib.hid (by
    have := (OwnB.new w w (Nat.le_refl _) (be 2 n) (n := 2) rfl (by unfold maxLen; omega)).bytes
    rw [be2, List.map_cons, List.map_cons, List.map_nil, ofNat_mod, ofNat_mod, show ((n / 256 : Nat) : Int) % 256 = (n : Int) / 256 by omega] at this
    rw [be2]; exact this)
  have hO := Lib.hid (h.out.keep ((Keeps.refl (fun _ => False) _).alloc (.cells #[.int .u8 ((n : Int) / 256), .int .u8 ((n : Int) % 256)] 5)) (fun _ _ f => f))
  have hb := Lib.hid (be_len 2 n)
  obtain ⟨pv, cv, rfl⟩ := h.out.slice
  go_enter Try.func44, Try.ntmps44
  go_wp2_with ((with_reducible refine at_slot 12 ?_); refine wpList_append_b rfl (.tmp 5) (.tmp 11) 71 rfl i0 Try.underlying71 hi0 hz0 hz1 hz2 w0 _ xs rfl hO.out _ rfl (be 2 n) hsrc.out (by rw [hb.out]; omega) ?_; intro q d w1 hO1 hG1)
  go_ret
  exact ⟨q, d, rfl, hO1.out, ((Keeps.refl _ _).alloc _).trans' hG1.out.k (fun i e => .inl e), fun k e => (hG1.out.s k e).imp id (fun h => by simp at h; omega)⟩
set_option maxRecDepth 100000 in
theorem wiLay32_any (w0 : World) (v : Value) (xs : List UInt8) (n : Nat) (hn : n < 4294967296) (hx : xs.length ≤ 1000000) (w : World) (h : Hid (OwnB w0 w v xs)) :
    Calls Try.prog 77 #[v, .int .u32 n] w (Appends w0 v xs (be 4 n) w) := by
  obtain ⟨i0, hi0, hz0, hz1, hz2⟩ := info_parts u8InfoAll
  have hsrc : Hid (BytesAt (w.alloc (.cells #[.int .u8 ((n : Int) / 16777216), .int .u8 ((n : Int) / 65536 % 256), .int .u8 ((n : Int) / 256 % 256), .int .u8 ((n : Int) % 256)] 5)) (.slice (some ⟨w.heap.size, 0, none⟩) 4 4) (be 4 n)) := Lib.hid (by
    have := (OwnB.new w w (Nat.le_refl _) (be 4 n) (n := 4) rfl (by unfold maxLen; omega)).bytes
    rw [be4, List.map_cons, List.map_cons, List.map_cons, List.map_cons, List.map_nil, ofNat_mod, ofNat_mod, ofNat_mod, ofNat_mod, show ((n / 16777216 : Nat) : Int) % 256 = (n : Int) / 16777216 by omega] at this
    rw [be4]; exact this)
  have hO := Lib.hid (h.out.keep ((Keeps.refl (fun _ => False) _).alloc (.cells #[.int .u8 ((n : Int) / 16777216), .int .u8 ((n : Int) / 65536 % 256), .int .u8 ((n : Int) / 256 % 256), .int .u8 ((n : Int) % 256)] 5)) (fun _ _ f => f))
  have hb := Lib.hid (be_len 4 n)
  obtain ⟨pv, cv, rfl⟩ := h.out.slice
  go_enter Try.func77, Try.ntmps77
  go_wp2_with ((with_reducible refine at_slot 18 ?_); refine wpList_append_b rfl (.tmp 5) (.tmp 17) 71 rfl i0 Try.underlying71 hi0 hz0 hz1 hz2 w0 _ xs rfl hO.out _ rfl (be 4 n) hsrc.out (by rw [hb.out]; omega) ?_; intro q d w1 hO1 hG1)
  go_ret
  exact ⟨q, d, rfl, hO1.out, ((Keeps.refl _ _).alloc _).trans' hG1.out.k (fun i e => .inl e), fun k e => (hG1.out.s k e).imp id (fun h => by simp at h; omega)⟩

theorem or_low32 (m : Nat) (c : UInt8) (hm : m * 256 < 4294967296) : bits .or .u32 ((m : Int) * 256) (c.toNat : Int) = ((m * 256 + c.toNat : Nat) : Int) := by
  have hc := c.toNat_lt
  have h := u32_or_nat (m * 256) c.toNat hm (by omega)
  rw [or_low, show ((m * 256 : Nat) : Int) = (m : Int) * 256 by omega] at h
  exact h
set_option maxHeartbeats 1000000 in
theorem wiRead_any (sl : Value) (l : List UInt8) (hl : l.length ≤ 4) (w : World) (h : Hid (BytesAt w sl l)) :
    Calls Try.prog 49 #[sl] w fun e w' => e = .returned (.int .u32 (beVal l : Nat)) ∧ w = w' := by
  obtain ⟨p, c, rfl, -, -, hb⟩ := h.out
  have hb' := Lib.hid hb; clear hb h
  go_enter Try.func49, Try.ntmps49
  go_wp2
  go_loop [3, 8] (fun nv iv => ∃ k : Nat, k ≤ l.length ∧ nv = .int .u32 (beVal (l.take k) : Nat) ∧ iv = .int .i64 k) (fun _ iv => 4 - (intOf iv).toNat)
  case atStart => exact ⟨0, by omega, by simp [beVal], rfl⟩
  case round =>
    obtain ⟨k, hk, rfl, rfl⟩ := hrel
    by_cases hlk : k < l.length
    · obtain ⟨g, o, rfl, hr⟩ := hb'.out (by omega)
      have hc := drop_cell hr k hlk
      have hs : beVal (l.take (k + 1)) = beVal (l.take k) * 256 + (l[k]).toNat := by
        rw [List.take_succ_eq_append_getElem (by omega), beVal_snoc]
      have hs' := Lib.hid hs; clear hs
      have hm : beVal (l.take k) < 16777216 := by
        have h1 := beVal_lt (l.take k)
        have h2 : (l.take k).length ≤ 3 := by simp; omega
        have h3 : 256 ^ (l.take k).length ≤ 256 ^ 3 := Nat.pow_le_pow_right (by omega) h2
        omega
      have hx := (l[k]).toNat_lt
      obtain ⟨m, hmm⟩ : ∃ m, m = beVal (l.take k) := ⟨_, rfl⟩
      rw [← hmm] at hm hs' ⊢
      have ho := or_low32 m l[k] (by omega)
      clear hmm hr
      go_wp2
      exact ⟨⟨k + 1, by omega, by rw [hs'.out]; go_num, by go_num⟩, by simp [intOf]; omega⟩
    · obtain rfl : k = l.length := by omega
      rw [List.take_length]
      go_wp2
      go_ret
      exact ⟨rfl, rfl⟩
theorem wiRead_r (sl : Value) (l : List UInt8) (n : Nat) (hl : l.length ≤ 4) (w : World) (h : Hid (BytesAt w sl l)) (hn : Hid (beVal l = n)) :
    Calls Try.prog 49 #[sl] w fun e w' => e = .returned (.int .u32 n) ∧ w = w' := by
  rw [← hn.out]; exact wiRead_any sl l hl w h

/-! rows of numbers of 32 bits -/
def nv (n : Nat) : Value := .int .u32 n
theorem nv_one (l : List Nat) : ∀ v ∈ l.map nv, v.oneCell' = true := by
  intro v hv; obtain ⟨x, _, rfl⟩ := List.mem_map.1 hv; rfl
theorem u32InfoAll : (Try.prog.info? 23).map (fun i => (i.zero, i.size, i.bytes)) = some (some (.int .u32 0), 1, 4) := by kernel_rfl
def Small (ns : List Nat) : Prop := ∀ n ∈ ns, n < 4294967296
/-- a slice of numbers reads as these -/
def NumsAt (w : World) (v : Value) (ns : List Nat) : Prop :=
  ∃ p c, v = .slice p ns.length c ∧ (p = none → c = 0) ∧ ns.length ≤ c ∧ (0 < ns.length → ∃ b o, p = some ⟨b, o, none⟩ ∧ w.rangeAt b o (ns.map nv))
theorem NumsAt.keepF {F : Nat → Prop} {w w' : World} {v : Value} {x : List Nat} (h : NumsAt w v x) (k : Keeps F w w') (hF : 0 < x.length → ∀ i, v.ownBlock = some i → ¬ F i) : NumsAt w' v x := by
  obtain ⟨p, c, rfl, hp, hc, h⟩ := h
  exact ⟨p, c, rfl, hp, hc, fun h0 => by obtain ⟨b, o, rfl, hr⟩ := h h0; exact ⟨b, o, rfl, k.rangeAt hr (hF h0 b rfl)⟩⟩
theorem NumsAt.keep {w w' : World} {v : Value} {x : List Nat} (h : NumsAt w v x) (k : Keeps (fun _ => False) w w') : NumsAt w' v x := h.keepF k (fun _ _ _ f => f)
theorem NumsAt.nil (w : World) : NumsAt w (.slice none 0 0) [] := ⟨none, 0, rfl, fun _ => rfl, Nat.le_refl _, fun h => by simp at h⟩
/-- the bytes of numbers, four each -/
def bes (ns : List Nat) : List UInt8 := ns.flatMap (be 4)
theorem bes_len (ns : List Nat) : (bes ns).length = 4 * ns.length := by
  induction ns with
  | nil => rfl
  | cons n ns ih => unfold bes at *; rw [List.flatMap_cons, List.length_append, ih, be_len, List.length_cons]; omega
theorem bes_snoc (ns : List Nat) (n : Nat) : bes (ns ++ [n]) = bes ns ++ be 4 n := by unfold bes; simp

set_option maxRecDepth 100000 in
set_option maxHeartbeats 1000000 in
theorem wiLayAll_any (w0 : World) (v : Value) (xs : List UInt8) (sv : Value) (ns : List Nat) (hs : Hid (Small ns)) (hx : xs.length + 4 * ns.length ≤ 1000000) (w : World) (h : Hid (OwnB w0 w v xs)) (hn : Hid (NumsAt w sv ns)) (hsep : Hid (0 < ns.length → ∀ k, sv.ownBlock = some k → v.ownBlock ≠ some k ∧ k < w.heap.size)) :
    Calls Try.prog 45 #[v, sv] w (Appends w0 v xs (bes ns) w) := by
  obtain ⟨pv, cv, rfl⟩ := h.out.slice
  obtain ⟨p, c, rfl, -, -, hb⟩ := hn.out
  have hb' := Lib.hid hb; clear hb
  go_enter Try.func45, Try.ntmps45
  go_wp2
  go_loopw [0, 9] (fun bw iv wr => ∃ k : Nat, k ≤ ns.length ∧ iv = .int .i64 k ∧ Hid (∃ q d, bw = .slice q (xs.length + 4 * k) d ∧ OwnB w0 wr bw (xs ++ bes (ns.take k)) ∧ Grown w (.slice pv xs.length cv) q (xs.length + 4 * k) d wr)) (fun _ iv _ => ns.length - (intOf iv).toNat)
  case atStart => exact ⟨0, by omega, rfl, Lib.hid ⟨pv, cv, rfl, by simpa [bes] using h.out, Keeps.refl _ _, fun k e => .inl e⟩⟩
  case round =>
    obtain ⟨k, hk, rfl, hrow⟩ := hrel
    obtain ⟨q, d, rfl, hO, hG⟩ := hrow.out
    have hO' := Lib.hid hO; have hG' := Lib.hid hG
    have hlen : (xs ++ bes (ns.take k)).length = xs.length + 4 * k := by rw [List.length_append, bes_len]; simp; omega
    clear hO hG hrow
    by_cases hlk : k < ns.length
    · obtain ⟨g, o, rfl, hr⟩ := hb'.out (by omega)
      have hr1 : wr.rangeAt g o (ns.map nv) := hG'.out.k.rangeAt hr (fun e => (hsep.out (by omega) g rfl).1 e)
      have hcell : wr.cell? ⟨g, o + k, none⟩ = some (.int .u32 (ns[k] : Nat)) := hr1 k _ (by simp [hlk, nv])
      have hlt : ns[k] < 4294967296 := hs.out _ (List.getElem_mem hlk)
      have hbs := bes_snoc (ns.take k) ns[k]
      rw [← List.take_succ_eq_append_getElem hlk] at hbs
      have hbs' := Lib.hid hbs; have hlen' := Lib.hid hlen
      clear hr hr1 hbs hlen
      go_wp2_with fail
      refine (wiLay32_any w0 _ (xs ++ bes (ns.take k)) ns[k] hlt (by rw [hlen'.out]; omega) _ hO').mono ?_
      rintro e w2 ⟨q2, d2, rfl, hO2, hG2⟩
      rw [hlen'.out, be_len] at *
      have hO2' := Lib.hid hO2; have hG2' := Lib.hid hG2
      clear hO2 hG2
      go_wp2_with fail
      exact ⟨⟨k + 1, by omega, by go_num, Lib.hid ⟨q2, d2, by rw [show xs.length + 4 * (k + 1) = xs.length + 4 * k + 4 by omega], by rw [hbs'.out, ← List.append_assoc]; exact hO2'.out, by rw [show xs.length + 4 * (k + 1) = xs.length + 4 * k + 4 by omega]; exact hG'.out.trans hG2'.out⟩⟩, by simp [intOf]; omega⟩
    · obtain rfl : k = ns.length := by omega
      go_wp2
      go_ret
      have hn2 := bes_len ns
      rw [List.take_length] at hO'
      exact ⟨q, d, by rw [hn2]; rfl, by rw [hn2]; exact hO'.out, by rw [hn2]; exact hG'.out⟩
end Go.Proofs.Ytdaongflpllfhaa
/- A region that draws its order, walked once an operation: G tells what holds of the temporaries and of the world, whichever operations have come up. -/
namespace Go.Proofs.Ytdaongflpllfhaa
open Go.RowKit

def updF (f : Nat → Value) (d : Nat) (v : Value) : Nat → Value := fun k => if k = d then v else f k
def updB (L : Nat → Bool) (r : Nat) : Nat → Bool := fun k => if k = r then true else L k
/-- A with the temporaries ds as f has them -/
def actOf (A : Act) (ds : List Nat) (f : Nat → Value) : Act := ds.foldl (fun a d => a.put (some d) (f d)) A
theorem actOf_cons (A : Act) (d : Nat) (ds : List Nat) (f : Nat → Value) : actOf A (d :: ds) f = actOf (A.put (some d) (f d)) ds f := rfl
theorem actOf_get (ds : List Nat) (f : Nat → Value) : ∀ (A : Act) (i : Nat), (actOf A ds f).tmps[i]? = if i ∈ ds ∧ i < A.tmps.size then some (f i) else A.tmps[i]? := by
  induction ds with
  | nil => intro A i; simp [actOf]
  | cons d ds ih =>
    intro A i
    rw [actOf_cons, ih]
    have hs : (A.put (some d) (f d)).tmps.size = A.tmps.size := by simp [Act.put]
    have hg : (A.put (some d) (f d)).tmps[i]? = if d = i then (if d < A.tmps.size then some (f d) else none) else A.tmps[i]? := by
      simp only [Act.put, Array.getElem?_setIfInBounds]
    rw [hs, hg]
    by_cases h1 : i ∈ ds ∧ i < A.tmps.size
    · rw [if_pos h1, if_pos ⟨List.mem_cons_of_mem _ h1.1, h1.2⟩]
    · rw [if_neg h1]
      by_cases h2 : d = i
      · subst h2
        rw [if_pos rfl]
        by_cases h3 : d < A.tmps.size
        · rw [if_pos h3, if_pos ⟨by simp, h3⟩]
        · rw [if_neg h3, if_neg (fun h => h3 h.2), Array.getElem?_eq_none (by omega)]
      · rw [if_neg h2, if_neg]
        rintro ⟨h3, h4⟩
        rcases List.mem_cons.1 h3 with h3 | h3
        · exact h2 h3.symm
        · exact h1 ⟨h3, h4⟩
theorem actOf_size (ds : List Nat) (f : Nat → Value) : ∀ A : Act, (actOf A ds f).tmps.size = A.tmps.size := by
  induction ds with
  | nil => intro A; rfl
  | cons d ds ih => intro A; rw [actOf_cons, ih]; simp [Act.put]
theorem actOf_defers (ds : List Nat) (f : Nat → Value) : ∀ A : Act, (actOf A ds f).defers = A.defers := by
  induction ds with
  | nil => intro A; rfl
  | cons d ds ih => intro A; rw [actOf_cons, ih]; simp [Act.put]
theorem act_ext {a b : Act} (h1 : ∀ i : Nat, a.tmps[i]? = b.tmps[i]?) (h2 : a.defers = b.defers) : a = b := by
  cases a; cases b
  simp only at h1 h2
  subst h2
  congr 1
  exact Array.ext_getElem? h1
theorem actOf_put {A : Act} {ds : List Nat} {f : Nat → Value} {d : Nat} (hd : d ∈ ds) (v : Value) : (actOf A ds f).put (some d) v = actOf A ds (updF f d v) := by
  apply act_ext
  · intro i
    rw [actOf_get]
    simp only [Act.put, Array.getElem?_setIfInBounds, actOf_size]
    rw [actOf_get]
    by_cases h : d = i
    · subst h
      rw [if_pos rfl]
      by_cases h3 : d < A.tmps.size
      · rw [if_pos h3, if_pos ⟨hd, h3⟩]; simp [updF]
      · rw [if_neg h3, if_neg (fun h => h3 h.2), Array.getElem?_eq_none (by omega)]
    · rw [if_neg h]
      by_cases h1 : i ∈ ds ∧ i < A.tmps.size
      · rw [if_pos h1, if_pos h1]; simp [updF, Ne.symm h]
      · rw [if_neg h1, if_neg h1]
  · rw [actOf_defers]; simp [Act.put, actOf_defers]
theorem actOf_self (A : Act) (ds : List Nat) : actOf A ds (fun d => A.tmps.getD d undef) = A := by
  apply act_ext
  · intro i
    rw [actOf_get]
    split
    · rename_i h; simp [h.2]
    · rfl
  · exact actOf_defers ..

/-- how many have not come up -/
def unl (L : Array Bool) : Nat := L.toList.count false
theorem unl_list : ∀ (l : List Bool) (i : Nat), l[i]? = some false → (l.set i true).count false + 1 = l.count false
  | [], i, h => by simp at h
  | b :: l, 0, h => by simp at h; subst h; simp
  | b :: l, i + 1, h => by
    have := unl_list l i (by simpa using h)
    simp only [List.set_cons_succ, List.count_cons]; omega
theorem unl_set {L : Array Bool} {i : Nat} (h : L.getD i true = false) : unl (L.setIfInBounds i true) + 1 = unl L := by
  unfold unl
  rw [Array.toList_setIfInBounds]
  refine unl_list _ _ ?_
  have hi : i < L.size := by
    rcases Nat.lt_or_ge i L.size with h' | h'
    · exact h'
    · simp [Array.getElem?_eq_none h'] at h
  simp [hi] at h ⊢
  exact h
theorem unl_zero {L : Array Bool} (h : unl L = 0) (i : Nat) : L.getD i true = true := by
  unfold unl at h
  rw [List.count_eq_zero] at h
  rcases Nat.lt_or_ge i L.size with h' | h'
  · have : L[i] ≠ false := fun e => h (by rw [← e]; simp)
    simp [h'] ; simpa using this
  · simp [Array.getElem?_eq_none h']

/-- each edge goes back -/
def backB (md : Region.Mode) (ops : Array Oper) : Bool := (List.range ops.size).all fun i => ((ops[i]?).map fun o => o.after.all fun e => !Region.binds md e || decide (e.on < i)).getD true
section
variable {P : Program} {ops : Array Oper} {Q : Exit → Act → World → Prop} {md : Region.Mode} {S : World → Prop}
theorem backB_spec (h : backB md ops = true) {i : Nat} {o : Oper} (ho : ops[i]? = some o) {e : Edge} (he : e ∈ o.after) (hb : Region.binds md e = true) : e.on < i := by
  unfold backB at h
  have hi : i < ops.size := (Array.getElem?_eq_some_iff.1 ho).1
  have := List.all_eq_true.1 h i (List.mem_range.2 hi)
  rw [ho] at this
  simp only [Option.map_some, Option.getD_some] at this
  have := (Array.all_eq_true'.1 this) e he
  simpa [hb] using this
theorem wpAnyH_inv (Inv : Array Bool → Act → World → Prop) (hb : backB md ops = true)
    (hstep : ∀ L a w i o, ops[i]? = some o → Inv L a w → L.getD i true = false → (∀ e ∈ o.after, Region.binds md e = true → L.getD e.on false = true) → wpOp P ops Q i (fun a' w' => S w' ∧ Inv (L.setIfInBounds i true) a' w') a w)
    (hdone : ∀ L a w, Inv L a w → (∀ i, i < ops.size → L.getD i true = true) → Q .normal a w) :
    ∀ (fuel : Nat) (L : Array Bool) (a : Act) (w : World), unl L ≤ fuel → Inv L a w → wpAnyH P md ops Q S fuel L a w := by
  intro fuel
  induction fuel with
  | zero =>
    intro L a w hu hi
    have hall : ∀ i, L.getD i true = true := unl_zero (by omega)
    refine ⟨?_, hdone L a w hi (fun i _ => hall i)⟩
    rw [List.eq_nil_iff_forall_not_mem]
    intro j hj
    have := (mem_ready.1 hj).1
    rw [hall j] at this; cases this
  | succ fuel ih =>
    intro L a w hu hi
    refine ⟨fun hr => hdone L a w hi ?_, fun i hir => ?_⟩
    · intro i
      induction i using Nat.strongRecOn with
      | _ i ihi =>
        intro hlt
        cases hc : L.getD i true with
        | true => rfl
        | false =>
          exfalso
          have : i ∈ Region.ready md ops L := mem_ready.2 ⟨hc, ops[i], by simp [hlt], fun e he hbd => by
            have hlti := backB_spec hb (show ops[i]? = some ops[i] by simp [hlt]) he hbd
            have h1 := ihi e.on hlti (by omega)
            have hsz : i < L.size := by
              rcases Nat.lt_or_ge i L.size with h' | h'
              · exact h'
              · simp [Array.getElem?_eq_none h'] at hc
            have : e.on < L.size := by omega
            simp [this] at h1 ⊢; exact h1⟩
          rw [hr] at this; cases this
    · obtain ⟨h1, o, ho, h2⟩ := mem_ready.1 hir
      refine wpOp_mono (fun a' w' h => ⟨h.1, ih _ a' w' ?_ h.2⟩) (hstep L a w i o ho hi h1 h2)
      have := unl_set h1; omega

/-- one operation's step -/
def StepG (P : Program) (md : Region.Mode) (ops : Array Oper) (Q : Exit → Act → World → Prop) (S : World → Prop) (A : Act) (ds R : List Nat) (G : (Nat → Bool) → (Nat → Value) → World → Prop) (r : Nat) : Prop :=
  ∀ o, ops[r]? = some o → ∀ (L : Nat → Bool) f w, G L f w → S w → L r = false → (∀ e ∈ o.after, Region.binds md e = true → e.on ∈ R → L e.on = true) →
    wpOp P ops Q r (fun a' w' => S w' ∧ ∃ f', a' = actOf A ds f' ∧ G (updB L r) f' w') (actOf A ds f) w
def StepsG (P : Program) (md : Region.Mode) (ops : Array Oper) (Q : Exit → Act → World → Prop) (S : World → Prop) (A : Act) (ds R : List Nat) (G : (Nat → Bool) → (Nat → Value) → World → Prop) (R' : List Nat) : Prop :=
  ∀ r ∈ R', StepG P md ops Q S A ds R G r
theorem StepsG.nil {A : Act} {ds R : List Nat} {G : (Nat → Bool) → (Nat → Value) → World → Prop} : StepsG P md ops Q S A ds R G [] := fun _ h => by cases h
theorem StepsG.cons {A : Act} {ds R : List Nat} {G : (Nat → Bool) → (Nat → Value) → World → Prop} {r d : Nat} {R' : List Nat} {o : Oper} (ho : ops[r]? = some o) (hd : o.dst = some d) (hm : d ∈ ds)
    (h : ∀ (L : Nat → Bool) f w, G L f w → S w → L r = false → (∀ e ∈ o.after, Region.binds md e = true → e.on ∈ R → L e.on = true) →
      ∀ K' : Act → World → Prop, Shut (∀ v w', S w' → G (updB L r) (updF f d v) w' → K' ((actOf A ds f).put (some d) v) w') →
        if Region.wanted o (yielded ops (actOf A ds f).tmps) = true then Oper.wp P o (actOf A ds f) w K' Q else K' ((actOf A ds f).put o.dst undef) w)
    (hs : StepsG P md ops Q S A ds R G R') : StepsG P md ops Q S A ds R G (r :: R') := fun j hj => by
  rcases List.mem_cons.1 hj with rfl | hj
  · intro o' ho' L f w hG hS hL hdep
    rw [ho] at ho'; injection ho' with ho'; subst ho'
    exact wpOp_step ho (fun K' hK => h L f w hG hS hL hdep K' (fun v w' hS' hG' => hK _ _ ⟨hS', updF f d v, actOf_put hm v, hG'⟩))
  · exact hs j hj
theorem StepsG.cons0 {A : Act} {ds R : List Nat} {G : (Nat → Bool) → (Nat → Value) → World → Prop} {r : Nat} {R' : List Nat} {o : Oper} (ho : ops[r]? = some o) (hd : o.dst = none)
    (h : ∀ (L : Nat → Bool) f w, G L f w → S w → L r = false → (∀ e ∈ o.after, Region.binds md e = true → e.on ∈ R → L e.on = true) →
      ∀ K' : Act → World → Prop, Shut (∀ w', S w' → G (updB L r) f w' → K' (actOf A ds f) w') →
        if Region.wanted o (yielded ops (actOf A ds f).tmps) = true then Oper.wp P o (actOf A ds f) w K' Q else K' ((actOf A ds f).put o.dst undef) w)
    (hs : StepsG P md ops Q S A ds R G R') : StepsG P md ops Q S A ds R G (r :: R') := fun j hj => by
  rcases List.mem_cons.1 hj with rfl | hj
  · intro o' ho' L f w hG hS hL hdep
    rw [ho] at ho'; injection ho' with ho'; subst ho'
    exact wpOp_step ho (fun K' hK => h L f w hG hS hL hdep K' (fun w' hS' hG' => hK _ _ ⟨hS', f, rfl, hG'⟩))
  · exact hs j hj
/-- the region's rest: R has not come up; ds: what R writes -/
theorem wpAnyH_slots {A : Act} {w : World} {fuel : Nat} {L0 : Array Bool} (ds R : List Nat) (G : (Nat → Bool) → (Nat → Value) → World → Prop)
    (hb : backB md ops = true) (hR : ((List.range ops.size).all fun j => L0.getD j true || R.contains j) = true) (hsz : L0.size = ops.size) (hR2 : (R.all fun j => !L0.getD j true) = true) (hf : unl L0 ≤ fuel) (hS : S w)
    (h0 : ∀ (L : Nat → Bool) f, (∀ r ∈ R, L r = false) → G L f w)
    (hs : StepsG P md ops Q S A ds R G R)
    (hdone : ∀ f w, G (fun _ => true) f w → S w → Q .normal (actOf A ds f) w) : wpAnyH P md ops Q S fuel L0 A w := by
  refine wpAnyH_inv (fun L a w => S w ∧ L.size = ops.size ∧ (∀ j, j ∉ R → L.getD j true = true) ∧ ∃ f, a = actOf A ds f ∧ G (fun j => L.getD j true) f w) hb ?_ ?_ fuel L0 A w hf ?_
  · rintro L a w i o ho ⟨hSw, hsz, hL, f, rfl, hG⟩ hun hdep
    have hi : i ∈ R := Classical.byContradiction fun h => by rw [hL i h] at hun; cases hun
    refine wpOp_mono ?_ (hs i hi o ho _ f w hG hSw hun (fun e he hbd hr => ?_))
    · rintro a' w' ⟨hS', f', rfl, hG'⟩
      refine ⟨hS', hS', by simpa using hsz, fun j hj => ?_, f', rfl, ?_⟩
      · have hne : i ≠ j := fun e => hj (e ▸ hi)
        rw [getD_set_ne true hne]; exact hL j hj
      · have hilt : i < L.size := by
          rcases Nat.lt_or_ge i L.size with h' | h'
          · exact h'
          · simp [Array.getElem?_eq_none h'] at hun
        have e : (fun j => (L.setIfInBounds i true).getD j true) = updB (fun j => L.getD j true) i := by
          funext j
          unfold updB
          by_cases hj : j = i
          · subst hj; rw [if_pos rfl]; simp [hilt]
          · rw [if_neg hj, getD_set_ne true (Ne.symm hj)]
        rw [e]; exact hG'
    · have h1 := hdep e he hbd
      have : e.on < L.size := by
        rcases Nat.lt_or_ge e.on L.size with h' | h'
        · exact h'
        · simp [Array.getElem?_eq_none h'] at h1
      simp [this] at h1 ⊢; exact h1
  · rintro L a w ⟨hSw, hsz, hL, f, rfl, hG⟩ hall
    refine hdone f w ?_ hSw
    have e : (fun j => L.getD j true) = fun _ => true := by
      funext j
      by_cases hj : j < ops.size
      · exact hall j hj
      · simp [Array.getElem?_eq_none (show L.size ≤ j by omega)]
    rw [e] at hG; exact hG
  · refine ⟨hS, hsz, fun j hj => ?_, _, (actOf_self A ds).symm, h0 _ _ (fun r hr => ?_)⟩
    · by_cases hlt : j < ops.size
      · have := List.all_eq_true.1 hR j (List.mem_range.2 hlt)
        rw [Bool.or_eq_true] at this
        rcases this with h | h
        · exact h
        · exact absurd (by simpa using h) hj
      · simp [Array.getElem?_eq_none (show L0.size ≤ j by omega)]
    · have := List.all_eq_true.1 hR2 r hr
      simpa using this
end
end Go.Proofs.Ytdaongflpllfhaa
/- The document's num, Num, walked. -/
namespace Go.Proofs.Ytdaongflpllfhaa
open Go.RowKit

theorem be_get (k n : Nat) : ∀ m, m < k → (be k n)[m]? = some (UInt8.ofNat (n / 256 ^ (k - 1 - m))) := by
  induction k with
  | zero => intro m h; omega
  | succ k ih =>
    intro m h
    cases m with
    | zero => simp [be]
    | succ m =>
      have := ih m (by omega)
      rw [be, List.getElem?_cons_succ, this, show k + 1 - 1 - (m + 1) = k - 1 - m by omega]
theorem be_take (k n j : Nat) (h : j < k) : (be k n).take (k - (j + 1)) ++ [UInt8.ofNat (n / 256 ^ j)] = (be k n).take (k - j) := by
  have hl := be_len k n
  have hg := be_get k n (k - (j + 1)) (by omega)
  rw [show k - 1 - (k - (j + 1)) = j by omega] at hg
  rw [show k - j = k - (j + 1) + 1 by omega, List.take_succ_eq_append_getElem (by omega)]
  rw [List.getElem?_eq_getElem (by omega)] at hg
  injection hg with hg
  rw [hg]
/-- new bytes of the call's own -/
def NewOwn (l : List UInt8) (w : World) (e : Ending) (w' : World) : Prop :=
  ∃ p c, e = .returned (.slice p l.length c) ∧ OwnB w w' (.slice p l.length c) l ∧ Keeps (fun _ => False) w w'
theorem pow256 (j : Nat) : (2 : Int) ^ (8 * j) = ((256 ^ j : Nat) : Int) := by
  rw [Int.natCast_pow]
  rw [show ((256 : Nat) : Int) = 2 ^ 8 from rfl, ← Int.pow_mul]
set_option maxRecDepth 100000 in
set_option maxHeartbeats 1000000 in
theorem r10num_any (n k : Nat) (hn : n < 18446744073709551616) (hk : k ≤ 8) (w : World) :
    Calls Try.prog 94 #[.int .u64 n, .int .i64 k] w (NewOwn (be k n) w) := by
  obtain ⟨i0, hi0, hz0, hz1, hz2⟩ := info_parts u8InfoAll
  have hbl := Lib.hid (be_len k n)
  go_enter Try.func94, Try.ntmps94
  go_wp2
  go_loopw [5, 6] (fun v iv wr => ∃ j : Nat, j ≤ k ∧ iv = .int .i64 ((j : Int) - 1) ∧ Hid (OwnB w wr v ((be k n).take (k - j)) ∧ Keeps (fun _ => False) w wr)) (fun _ iv _ => (intOf iv + 1).toNat)
  case atStart => exact ⟨k, by omega, rfl, Lib.hid ⟨by rw [Nat.sub_self]; exact OwnB.nil _ _ (Nat.le_refl _), Keeps.refl _ _⟩⟩
  case round =>
    obtain ⟨j, hj, rfl, hO⟩ := hrel
    have hlen : ((be k n).take (k - j)).length = k - j := by rw [List.length_take, hbl.out]; omega
    obtain ⟨q, d, hq⟩ := hO.out.1.slice
    rw [hlen] at hq
    subst hq
    cases j with
    | succ j =>
      have hp := pow256 j
      obtain ⟨m, hm⟩ : ∃ m, m = n / 256 ^ j := ⟨_, rfl⟩
      have hdiv : (n : Int) / 2 ^ (8 * j) = (m : Int) := by rw [hp, hm]; exact (Int.natCast_ediv _ _).symm
      have hsh : IntKind.i64.wrap (8 * (j : Int)) = 8 * (j : Int) := IntWalk.i64_in _ (by omega)
      have hsrc : Hid (BytesAt (wr.alloc (.cells #[.int .u8 ((m : Int) % 256)] 5)) (.slice (some ⟨wr.heap.size, 0, none⟩) 1 1) [UInt8.ofNat m]) := Lib.hid (by
        have := (OwnB.new wr wr (Nat.le_refl _) [UInt8.ofNat m] (n := 1) rfl (by unfold maxLen; omega)).bytes
        rw [List.map_cons, List.map_nil, ofNat_mod] at this
        exact this)
      have hO2 := Lib.hid (hO.out.1.keep ((Keeps.refl (fun _ => False) _).alloc (.cells #[.int .u8 ((m : Int) % 256)] 5)) (fun _ _ f => f))
      have hK2 := Lib.hid (hO.out.2.alloc (.cells #[.int .u8 ((m : Int) % 256)] 5))
      have hbt := Lib.hid (be_take k n j (by omega))
      rw [← hm] at hbt
      have hlen' := Lib.hid hlen
      clear hp hm hlen hO
      go_wp2_with ((with_reducible refine at_slot 20 ?_); refine wpList_append_b rfl (.tmp 13) (.tmp 19) 71 rfl i0 Try.underlying71 hi0 hz0 hz1 hz2 w _ ((be k n).take (k - (j + 1))) rfl hO2.out _ rfl [UInt8.ofNat m] hsrc.out (by rw [hlen'.out]; simp; omega) ?_; intro q2 d2 w2 hO3 hG3)
      refine ⟨⟨j, by omega, rfl, Lib.hid ⟨?_, hK2.out.trans' hG3.out.k (fun i e => .inr (hO2.out.2.1 i e))⟩⟩, by simp [intOf]⟩
      have h3 := hO3.out
      rw [hbt.out] at h3
      simpa using h3
    | zero =>
      have hO' := hO.out
      rw [List.take_of_length_le (by rw [hbl.out]; omega)] at hO'
      have hO2 := Lib.hid hO'
      clear hO hO' hlen
      go_wp2
      go_ret
      exact ⟨q, d, by rw [hbl.out]; rfl, by rw [hbl.out]; exact hO2.out.1, hO2.out.2⟩
theorem r10num_r (n k : Nat) (l : List UInt8) (hn : n < 18446744073709551616) (hk : k ≤ 8) (w : World) (hl : Hid (be k n = l)) :
    Calls Try.prog 94 #[.int .u64 n, .int .i64 k] w (NewOwn l w) := by rw [← hl.out]; exact r10num_any n k hn hk w
set_option maxHeartbeats 1000000 in
theorem r10Num_any (sl : Value) (l : List UInt8) (hl : l.length ≤ 4) (w : World) (h : Hid (BytesAt w sl l)) :
    Calls Try.prog 97 #[sl] w fun e w' => e = .returned (.int .i64 (beVal l : Nat)) ∧ w = w' := by
  obtain ⟨p, c, rfl, -, -, hb⟩ := h.out
  have hb' := Lib.hid hb; clear hb h
  go_enter Try.func97, Try.ntmps97
  go_wp2
  go_loop [3, 4] (fun nv iv => ∃ k : Nat, k ≤ l.length ∧ nv = .int .i64 (beVal (l.take k) : Nat) ∧ iv = .int .i64 k) (fun _ iv => 4 - (intOf iv).toNat)
  case atStart => exact ⟨0, by omega, by simp [beVal], rfl⟩
  case round =>
    obtain ⟨k, hk, rfl, rfl⟩ := hrel
    by_cases hlk : k < l.length
    · obtain ⟨g, o, rfl, hr⟩ := hb'.out (by omega)
      have hc := drop_cell hr k hlk
      have hs : beVal (l.take (k + 1)) = beVal (l.take k) * 256 + (l[k]).toNat := by
        rw [List.take_succ_eq_append_getElem (by omega), beVal_snoc]
      have hs' := Lib.hid hs; clear hs
      have hm : beVal (l.take k) < 16777216 := by
        have h1 := beVal_lt (l.take k)
        have h2 : (l.take k).length ≤ 3 := by simp; omega
        have h3 : 256 ^ (l.take k).length ≤ 256 ^ 3 := Nat.pow_le_pow_right (by omega) h2
        omega
      have hx := (l[k]).toNat_lt
      obtain ⟨m, hmm⟩ : ∃ m, m = beVal (l.take k) := ⟨_, rfl⟩
      rw [← hmm] at hm hs' ⊢
      clear hmm hr
      go_wp2
      exact ⟨⟨k + 1, by omega, by rw [hs'.out]; go_num, by go_num⟩, by simp [intOf]; omega⟩
    · obtain rfl : k = l.length := by omega
      rw [List.take_length]
      go_wp2
      go_ret
      exact ⟨rfl, rfl⟩
end Go.Proofs.Ytdaongflpllfhaa
