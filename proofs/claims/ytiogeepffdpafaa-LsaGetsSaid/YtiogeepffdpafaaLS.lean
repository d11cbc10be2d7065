/- slices.Equal of links and of numbers, walked. -/
import Derived.Test.YtiogeepffdpafaaLR
import Derived.Laws.StructEq
namespace Go.Proofs.Ytiogeepffdpafaa
open Go.RowKit

def linkEq (a b : LinkD) : Bool := decide (a.id = b.id) && (decide (a.data = b.data) && (decide (a.type = b.type) && decide (a.cost = b.cost)))
def linksEq : List LinkD → List LinkD → Bool
  | [], [] => true
  | a :: r, b :: s => linkEq a b && linksEq r s
  | _, _ => false
def numsEq : List Nat → List Nat → Bool
  | [], [] => true
  | a :: r, b :: s => decide (a = b) && numsEq r s
  | _, _ => false
theorem linksEq_len {a b : List LinkD} (h : a.length ≠ b.length) : linksEq a b = false := by
  induction a generalizing b with
  | nil => cases b <;> simp_all [linksEq]
  | cons x a ih =>
    cases b with
    | nil => rfl
    | cons y b => simp only [linksEq]; rw [ih (by simpa using h)]; simp
theorem numsEq_len {a b : List Nat} (h : a.length ≠ b.length) : numsEq a b = false := by
  induction a generalizing b with
  | nil => cases b <;> simp_all [numsEq]
  | cons x a ih =>
    cases b with
    | nil => rfl
    | cons y b => simp only [numsEq]; rw [ih (by simpa using h)]; simp
theorem numsEq_step {a b : List Nat} {k : Nat} (h1 : k < a.length) (h2 : k < b.length) : numsEq (a.drop k) (b.drop k) = (decide (a[k] = b[k]) && numsEq (a.drop (k + 1)) (b.drop (k + 1))) := by
  rw [List.drop_eq_getElem_cons h1, List.drop_eq_getElem_cons h2]; rfl
theorem linksEq_step {a b : List LinkD} {k : Nat} (h1 : k < a.length) (h2 : k < b.length) : linksEq (a.drop k) (b.drop k) = (linkEq a[k] b[k] && linksEq (a.drop (k + 1)) (b.drop (k + 1))) := by
  rw [List.drop_eq_getElem_cons h1, List.drop_eq_getElem_cons h2]; rfl
set_option maxRecDepth 100000 in
set_option maxHeartbeats 1000000 in
theorem slEqU32_any (a b : Value) (xs ys : List Nat) (z : Bool) (hxl : xs.length ≤ 9223372036854775807) (hyl : ys.length ≤ 9223372036854775807) (w : World) (ha : Hid (NumsAt w a xs)) (hb : Hid (NumsAt w b ys)) (hz : Hid (numsEq xs ys = z)) :
    Calls Try.prog 71 #[a, b] w fun e w' => e = .returned (.bool z) ∧ ∃ n, w' = w.drewN n := by
  obtain ⟨p, c, rfl, -, -, hra⟩ := ha.out
  obtain ⟨q, d, rfl, -, -, hrb⟩ := hb.out
  have hra' := Lib.hid hra; have hrb' := Lib.hid hrb
  clear hra hrb ha hb
  by_cases hlen : xs.length = ys.length
  · have hbne : ((xs.length : Int) != (ys.length : Int)) = false := by rw [hlen]; simp
    have hlen' := Lib.hid hlen; clear hlen
    go_enter Try.func71, Try.ntmps71
    go_wp2_with fail
    go_loopw [13] (fun iv wr => ∃ k : Nat, k ≤ xs.length ∧ iv = .int .i64 k ∧ Hid (numsEq (xs.drop k) (ys.drop k) = z) ∧ Hid (∃ m, wr = w.drewN m)) (fun iv _ => xs.length - (intOf iv).toNat)
    case atStart => exact ⟨0, by omega, rfl, Lib.hid hz.out, Lib.hid ⟨0, rfl⟩⟩
    case round =>
      obtain ⟨k, hk, rfl, heq, hm⟩ := hrel
      by_cases hlk : k < xs.length
      · have hlk2 : k < ys.length := by have := hlen'.out; omega
        obtain ⟨g, o, rfl, hr1⟩ := hra'.out (by omega)
        obtain ⟨g2, o2, rfl, hr2⟩ := hrb'.out (by omega)
        have c1 : wr.cell? ⟨g, o + k, none⟩ = some (.int .u32 (xs[k] : Nat)) := by obtain ⟨m, rfl⟩ := hm.out; exact hr1 k _ (by simp [hlk, nv])
        have c2 : wr.cell? ⟨g2, o2 + k, none⟩ = some (.int .u32 (ys[k] : Nat)) := by obtain ⟨m, rfl⟩ := hm.out; exact hr2 k _ (by simp [hlk2, nv])
        have hst := numsEq_step hlk hlk2
        rw [heq.out] at hst
        have hlk2i : (k : Int) < ys.length := by omega
        by_cases he : xs[k] = ys[k]
        · have hb0 : ((xs[k] : Int) != (ys[k] : Int)) = false := by rw [he]; simp
          have hz1 : Hid (numsEq (xs.drop (k + 1)) (ys.drop (k + 1)) = z) := Lib.hid (by rw [hst]; simp [he])
          clear he hst heq
          go_wp2_with fail
          go_quiet (fail)
          go_wp2_with fail
          exact ⟨⟨k + 1, by omega, by go_num, hz1, by obtain ⟨m, rfl⟩ := hm.out; exact Lib.hid ⟨m + nq, by rw [World.drewN_drewN]⟩⟩, by simp [intOf]; omega⟩
        · have hb0 : ((xs[k] : Int) != (ys[k] : Int)) = true := by rw [bne_iff_ne]; omega
          have hz1 : Hid (z = false) := Lib.hid (by rw [hst]; simp [he])
          clear he hst heq
          go_wp2_with fail
          go_quiet (fail)
          go_wp2_with fail
          go_ret
          exact ⟨by rw [hz1.out]; rfl, by obtain ⟨m, rfl⟩ := hm.out; exact ⟨m + nq, by rw [World.drewN_drewN]⟩⟩
      · have hz1 : Hid (z = true) := Lib.hid (by
          rw [← heq.out, List.drop_of_length_le (by omega), List.drop_of_length_le (by have := hlen'.out; omega)]; rfl)
        clear heq
        go_wp2_with fail
        go_ret
        exact ⟨by rw [hz1.out]; rfl, hm.out⟩
  · have hbne : ((xs.length : Int) != (ys.length : Int)) = true := by rw [bne_iff_ne]; omega
    have hz1 : Hid (z = false) := Lib.hid (by rw [← hz.out]; exact numsEq_len hlen)
    clear hlen
    go_enter Try.func71, Try.ntmps71
    go_wp2_with fail
    go_ret
    exact ⟨by rw [hz1.out]; rfl, 0, rfl⟩
@[go_sem] theorem guardLink (op : BinOp) (x y : Operand) (xs ys : Array Value) (w : World) : (eqGuard op 125 x y (.agg xs) (.agg ys)).run Try.prog w = .ok () w := run_eqGuard_agg w op 125 x y xs ys (by kernel_rfl)
set_option maxRecDepth 100000 in
set_option maxHeartbeats 1000000 in
theorem slEqLinks_any (a b : Value) (xs ys : List LinkD) (z : Bool) (hxl : xs.length ≤ 9223372036854775807) (hyl : ys.length ≤ 9223372036854775807) (w : World) (ha : Hid (LinksAt w a xs)) (hb : Hid (LinksAt w b ys)) (hz : Hid (linksEq xs ys = z)) :
    Calls Try.prog 70 #[a, b] w fun e w' => e = .returned (.bool z) ∧ ∃ n, w' = w.drewN n := by
  obtain ⟨p, c, rfl, -, -, hra⟩ := ha.out
  obtain ⟨q, d, rfl, -, -, hrb⟩ := hb.out
  have hra' := Lib.hid hra; have hrb' := Lib.hid hrb
  clear hra hrb ha hb
  by_cases hlen : xs.length = ys.length
  · have hbne : ((xs.length : Int) != (ys.length : Int)) = false := by rw [hlen]; simp
    have hlen' := Lib.hid hlen; clear hlen
    go_enter Try.func70, Try.ntmps70
    go_wp2_with fail
    go_loopw [13] (fun iv wr => ∃ k : Nat, k ≤ xs.length ∧ iv = .int .i64 k ∧ Hid (linksEq (xs.drop k) (ys.drop k) = z) ∧ Hid (∃ m, wr = w.drewN m)) (fun iv _ => xs.length - (intOf iv).toNat)
    case atStart => exact ⟨0, by omega, rfl, Lib.hid hz.out, Lib.hid ⟨0, rfl⟩⟩
    case round =>
      obtain ⟨k, hk, rfl, heq, hm⟩ := hrel
      by_cases hlk : k < xs.length
      · have hlk2 : k < ys.length := by have := hlen'.out; omega
        obtain ⟨g, o, rfl, hr1⟩ := hra'.out (by omega)
        obtain ⟨g2, o2, rfl, hr2⟩ := hrb'.out (by omega)
        obtain ⟨l1, hl1⟩ : ∃ l, xs[k] = l := ⟨_, rfl⟩
        obtain ⟨l2, hl2⟩ : ∃ l, ys[k] = l := ⟨_, rfl⟩
        have r1 : wr.rangeAt g (o + k * 4) (linkVals l1) := by obtain ⟨m, rfl⟩ := hm.out; exact hr1 k l1 (by rw [List.getElem?_eq_getElem hlk, hl1])
        have r2 : wr.rangeAt g2 (o2 + k * 4) (linkVals l2) := by obtain ⟨m, rfl⟩ := hm.out; exact hr2 k l2 (by rw [List.getElem?_eq_getElem hlk2, hl2])
        have hst := linksEq_step hlk hlk2
        rw [heq.out, hl1, hl2] at hst
        have hlk2i : (k : Int) < ys.length := by omega
        obtain ⟨i1, d1, t1, s1⟩ := l1
        obtain ⟨i2, d2, t2, s2⟩ := l2
        have c10 := r1 0 (.int .u32 i1) rfl
        have c11 := r1 1 (.int .u32 d1) rfl
        have c12 := r1 2 (.int .i64 t1) rfl
        have c13 := r1 3 (.int .i64 s1) rfl
        have c20 := r2 0 (.int .u32 i2) rfl
        have c21 := r2 1 (.int .u32 d2) rfl
        have c22 := r2 2 (.int .i64 t2) rfl
        have c23 := r2 3 (.int .i64 s2) rfl
        rw [Nat.add_zero] at c10 c20
        have hst' := Lib.hid hst
        clear hst heq hl1 hl2 r1 r2 hr1 hr2
        have key : (i1 = i2 ∧ d1 = d2 ∧ t1 = t2 ∧ s1 = s2) ∨ (¬ i1 = i2) ∨ (i1 = i2 ∧ ¬ d1 = d2) ∨ (i1 = i2 ∧ d1 = d2 ∧ ¬ t1 = t2) ∨ (i1 = i2 ∧ d1 = d2 ∧ t1 = t2 ∧ ¬ s1 = s2) := by
          by_cases h1 : i1 = i2 <;> by_cases h2 : d1 = d2 <;> by_cases h3 : t1 = t2 <;> by_cases h4 : s1 = s2 <;> simp [h1, h2, h3, h4]
        rcases key with ⟨rfl, rfl, rfl, rfl⟩ | hn | ⟨rfl, hn⟩ | ⟨rfl, rfl, hn⟩ | ⟨rfl, rfl, rfl, hn⟩
        · have hz1 : Hid (linksEq (xs.drop (k + 1)) (ys.drop (k + 1)) = z) := Lib.hid (by rw [hst'.out]; simp [linkEq])
          clear hst'
          go_wp2_with fail
          go_quiet (fail)
          go_wp2_with fail
          exact ⟨⟨k + 1, by omega, by go_num, hz1, by obtain ⟨m, rfl⟩ := hm.out; exact Lib.hid ⟨m + nq, by rw [World.drewN_drewN]⟩⟩, by simp [intOf]; omega⟩
        · have hz1 : Hid (z = false) := Lib.hid (by rw [hst'.out]; simp [linkEq, hn])
          have hni : ¬ ((i1 : Nat) : Int) = (i2 : Nat) := by omega
          clear hn
          clear hst'
          go_wp2_with fail
          go_quiet (fail)
          go_wp2_with fail
          go_ret
          exact ⟨by rw [hz1.out]; rfl, by obtain ⟨m, rfl⟩ := hm.out; exact ⟨m + nq, by rw [World.drewN_drewN]⟩⟩
        · have hz1 : Hid (z = false) := Lib.hid (by rw [hst'.out]; simp [linkEq, hn])
          have hni : ¬ ((d1 : Nat) : Int) = (d2 : Nat) := by omega
          clear hn
          clear hst'
          go_wp2_with fail
          go_quiet (fail)
          go_wp2_with fail
          go_ret
          exact ⟨by rw [hz1.out]; rfl, by obtain ⟨m, rfl⟩ := hm.out; exact ⟨m + nq, by rw [World.drewN_drewN]⟩⟩
        · have hz1 : Hid (z = false) := Lib.hid (by rw [hst'.out]; simp [linkEq, hn])
          clear hst'
          go_wp2_with fail
          go_quiet (fail)
          go_wp2_with fail
          go_ret
          exact ⟨by rw [hz1.out]; rfl, by obtain ⟨m, rfl⟩ := hm.out; exact ⟨m + nq, by rw [World.drewN_drewN]⟩⟩
        · have hz1 : Hid (z = false) := Lib.hid (by rw [hst'.out]; simp [linkEq, hn])
          clear hst'
          go_wp2_with fail
          go_quiet (fail)
          go_wp2_with fail
          go_ret
          exact ⟨by rw [hz1.out]; rfl, by obtain ⟨m, rfl⟩ := hm.out; exact ⟨m + nq, by rw [World.drewN_drewN]⟩⟩
      · have hz1 : Hid (z = true) := Lib.hid (by
          rw [← heq.out, List.drop_of_length_le (by omega), List.drop_of_length_le (by have := hlen'.out; omega)]; rfl)
        clear heq
        go_wp2_with fail
        go_ret
        exact ⟨by rw [hz1.out]; rfl, hm.out⟩
  · have hbne : ((xs.length : Int) != (ys.length : Int)) = true := by rw [bne_iff_ne]; omega
    have hz1 : Hid (z = false) := Lib.hid (by rw [← hz.out]; exact linksEq_len hlen)
    clear hlen
    go_enter Try.func70, Try.ntmps70
    go_wp2_with fail
    go_ret
    exact ⟨by rw [hz1.out]; rfl, 0, rfl⟩
end Go.Proofs.Ytiogeepffdpafaa
