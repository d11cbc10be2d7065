/- Links in memory; within, isWrong, the search among links. -/
import Derived.Test.YtiogeepffdpafaaLD
import Derived.Deep.MidRow
namespace Go.Proofs.Ytiogeepffdpafaa
open Go.RowKit

/-- a link, plain -/
structure LinkD where
  id : Nat
  data : Nat
  type : Int
  cost : Int
def LinkD.ok (l : LinkD) : Prop := l.id < 4294967296 ∧ l.data < 4294967296 ∧ (-9223372036854775808 ≤ l.type ∧ l.type ≤ 9223372036854775807) ∧ (-9223372036854775808 ≤ l.cost ∧ l.cost ≤ 9223372036854775807)
def linkVals (l : LinkD) : List Value := [.int .u32 l.id, .int .u32 l.data, .int .i64 l.type, .int .i64 l.cost]
theorem linkInfo : (Try.prog.info? 125).map (·.size) = some 4 := by kernel_rfl
/-- links in memory -/
def LinksAt (w : World) (v : Value) (ls : List LinkD) : Prop := ∃ p c, v = .slice p ls.length c ∧ (p = none → c = 0) ∧ ls.length ≤ c ∧ (0 < ls.length → ∃ g o, p = some ⟨g, o, none⟩ ∧ ∀ i l, ls[i]? = some l → w.rangeAt g (o + i * 4) (linkVals l))
theorem LinksAt.keepF {F : Nat → Prop} {w w' : World} {v : Value} {ls : List LinkD} (h : LinksAt w v ls) (k : Keeps F w w') (hF : 0 < ls.length → ∀ i, v.ownBlock = some i → ¬ F i) : LinksAt w' v ls := by
  obtain ⟨p, c, rfl, hp, hc, h⟩ := h
  refine ⟨p, c, rfl, hp, hc, fun h0 => ?_⟩
  obtain ⟨g, o, rfl, hr⟩ := h h0
  exact ⟨g, o, rfl, fun i l hl => k.rangeAt (hr i l hl) (hF h0 g rfl)⟩
theorem LinksAt.keep {w w' : World} {v : Value} {ls : List LinkD} (h : LinksAt w v ls) (k : Keeps (fun _ => False) w w') : LinksAt w' v ls := h.keepF k (fun _ _ _ f => f)
theorem LinksAt.nil (w : World) : LinksAt w (.slice none 0 0) [] := ⟨none, 0, rfl, fun _ => rfl, Nat.le_refl _, fun h => by simp at h⟩
def withinB (n lo hi : Int) : Bool := decide (lo ≤ n ∧ n ≤ hi)
theorem lsWithin_r (n lo hi : Int) (r : Bool) (w : World) (hr : Hid (withinB n lo hi = r)) :
    Calls Try.prog 93 #[.int .i64 n, .int .i64 lo, .int .i64 hi] w fun e w' => e = .returned (.bool r) ∧ w = w' := by
  have h := hr.out
  unfold withinB at h
  by_cases h1 : lo ≤ n
  · by_cases h2 : n ≤ hi
    · rw [decide_eq_true ⟨h1, h2⟩] at h
      subst h
      go_enter Try.func93, Try.ntmps93
      go_wp2
      go_ret
      exact ⟨rfl, rfl⟩
    · rw [decide_eq_false (fun h => h2 h.2)] at h
      subst h
      go_enter Try.func93, Try.ntmps93
      go_wp2
      go_ret
      exact ⟨rfl, rfl⟩
  · rw [decide_eq_false (fun h => h1 h.1)] at h
    subst h
    go_enter Try.func93, Try.ntmps93
    go_wp2
    go_ret
    exact ⟨rfl, rfl⟩
def wrongB (l : LinkD) : Bool := !withinB l.type 1 4 || !withinB l.cost 0 65535
theorem lsIsWrong_r (l : LinkD) (r : Bool) (w : World) (hr : Hid (wrongB l = r)) :
    Calls Try.prog 95 #[.agg #[.int .u32 l.id, .int .u32 l.data, .int .i64 l.type, .int .i64 l.cost]] w (fun e w' => e = .returned (.bool r) ∧ Keeps (fun _ => False) w w') := by
  have h := hr.out
  unfold wrongB at h
  obtain ⟨a, ha⟩ : ∃ a, withinB l.type 1 4 = a := ⟨_, rfl⟩
  obtain ⟨b, hb⟩ : ∃ b, withinB l.cost 0 65535 = b := ⟨_, rfl⟩
  rw [ha, hb] at h
  have ha' := Lib.hid ha; have hb' := Lib.hid hb
  clear ha hb hr
  cases a
  · have h' : true = r := h
    subst h'
    clear h
    go_enter Try.func95, Try.ntmps95
    go_wp2_with (go_at_call 93; refine (lsWithin_r _ _ _ false _ ha').mono ?_; rintro e w' ⟨rfl, rfl⟩)
    go_ret
    exact ⟨rfl, (Keeps.refl _ _).alloc _⟩
  · have h' : (!b) = r := h
    subst h'
    clear h
    go_enter Try.func95, Try.ntmps95
    go_wp2_with fail
    refine (lsWithin_r _ _ _ true _ ha').mono ?_
    rintro e w' ⟨rfl, rfl⟩
    go_wp2_with fail
    refine (lsWithin_r _ _ _ b _ hb').mono ?_
    rintro e w' ⟨rfl, rfl⟩
    go_wp2_with fail
    go_ret
    exact ⟨rfl, (Keeps.refl _ _).alloc _⟩
def anyFrom (ls : List LinkD) (k : Nat) : Bool := (ls.drop k).any wrongB
theorem anyFrom_step (ls : List LinkD) (k : Nat) (l : LinkD) (h : ls[k]? = some l) : anyFrom ls k = (wrongB l || anyFrom ls (k + 1)) := by
  obtain ⟨hk, rfl⟩ := List.getElem?_eq_some_iff.1 h
  unfold anyFrom
  rw [List.drop_eq_getElem_cons hk, List.any_cons]
theorem anyFrom_end (ls : List LinkD) : anyFrom ls ls.length = false := by unfold anyFrom; simp
set_option maxRecDepth 100000 in
theorem slIFLinks_any (sl : Value) (ls : List LinkD) (hl : ls.length ≤ 9223372036854775807) (z : Bool) (w : World) (h : Hid (LinksAt w sl ls)) (hz : Hid (ls.any wrongB = z)) :
    Calls Try.prog 128 #[sl, .func (.func 95) #[] #[]] w (fun e w' => (∃ r : Int, e = .returned (.int .i64 r) ∧ decide (0 ≤ r) = z) ∧ Keeps (fun _ => False) w w') := by
  obtain ⟨p, c, rfl, -, -, hb⟩ := h.out
  have hb' := Lib.hid hb; clear hb h
  go_enter Try.func128, Try.ntmps128
  go_wp2_with fail
  go_loopw [8] (fun iv wr => ∃ k : Nat, k ≤ ls.length ∧ iv = .int .i64 k ∧ Hid (anyFrom ls k = z) ∧ Hid (Keeps (fun _ => False) w wr)) (fun iv _ => ls.length - (intOf iv).toNat)
  case atStart => exact ⟨0, by omega, rfl, Lib.hid hz.out, Lib.hid (Keeps.refl _ _)⟩
  case round =>
    obtain ⟨k, hk, rfl, hany, hkr⟩ := hrel
    by_cases hlk : k < ls.length
    · obtain ⟨g, o, rfl, hrows⟩ := hb'.out (by omega)
      obtain ⟨l, hll⟩ : ∃ l, ls[k]? = some l := ⟨_, List.getElem?_eq_getElem hlk⟩
      have hrow : Hid (wr.rangeAt g (o + k * 4) [.int .u32 l.id, .int .u32 l.data, .int .i64 l.type, .int .i64 l.cost]) := Lib.hid (hkr.out.rangeAt (hrows k l hll) id)
      have hst := anyFrom_step ls k l hll
      rw [hany.out] at hst
      obtain ⟨x, hx⟩ : ∃ x, wrongB l = x := ⟨_, rfl⟩
      rw [hx] at hst
      have hx' := Lib.hid hx; have hst' := Lib.hid hst
      clear hx hst hrows hll hany
      go_wp2_with ((with_reducible refine at_slot 15 ?_); refine wpList_load_mid rfl 125 (.tmp 14) rfl g (o + k * 4) rfl _ _ hrow.out Try.underlying125 rfl linkInfo ?_)
      refine (lsIsWrong_r l x _ hx').mono ?_
      rintro e w2 ⟨rfl, k2⟩
      have k2' := Lib.hid (hkr.out.trans k2); clear k2
      cases x with
      | true =>
        have hz1 : Hid (z = true) := Lib.hid hst'.out
        clear hst'
        go_wp2_with fail
        go_ret
        exact ⟨⟨_, rfl, by rw [hz1.out]; simp⟩, k2'.out⟩
      | false =>
        have hz1 : Hid (anyFrom ls (k + 1) = z) := Lib.hid hst'.out.symm
        clear hst'
        go_wp2_with fail
        exact ⟨⟨k + 1, by omega, by go_num, hz1, k2'⟩, by simp [intOf]; omega⟩
    · obtain rfl : k = ls.length := by omega
      have hz1 : Hid (z = false) := Lib.hid (by rw [← hany.out, anyFrom_end])
      clear hany
      go_wp2_with fail
      go_ret
      exact ⟨⟨_, rfl, by rw [hz1.out]; rfl⟩, hkr.out⟩
theorem slCFLinks_any (sl : Value) (ls : List LinkD) (hl : ls.length ≤ 9223372036854775807) (z : Bool) (w : World) (h : Hid (LinksAt w sl ls)) (hz : Hid (ls.any wrongB = z)) :
    Calls Try.prog 94 #[sl, .func (.func 95) #[] #[]] w (fun e w' => e = .returned (.bool z) ∧ Keeps (fun _ => False) w w') := by
  go_enter Try.func94, Try.ntmps94
  go_wp2_with fail
  refine (slIFLinks_any sl ls hl z _ h hz).mono ?_
  rintro e w2 ⟨⟨r, rfl, hr⟩, k2⟩
  have hr' := Lib.hid hr; have k2' := Lib.hid k2
  clear hr k2
  go_wp2_with fail
  go_ret
  exact ⟨by rw [← hr'.out]; rfl, k2'.out⟩
end Go.Proofs.Ytiogeepffdpafaa
