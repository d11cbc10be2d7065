/- Rows of texts of the journal's laws: texts, lists, Sum, Right, Same. -/
import Derived.Test.YtcmpbablmofofaaJQ
import Derived.Test.YtcmpbablmofofaaJR
import Derived.Test.YtcmpbablmofofaaJB
import Derived.Lib.ConvBytes
set_option linter.unusedVariables false
set_option linter.unusedSimpArgs false
namespace Go.Proofs.Ytcmpbablmofofaa
open Go.RowKit

def sv1 (l : List UInt8) : List Value := [.string ⟨l.toArray⟩]
theorem sv1_len (l : List UInt8) : (sv1 l).length = 1 := rfl
theorem sv1_one (l : List UInt8) : ∀ u ∈ sv1 l, u.oneCell' = true := by intro u hu; simp [sv1] at hu; subst hu; rfl
theorem strInfoK : ∃ i, Try.prog.info? 9 = some i ∧ i.zero = some (.string ⟨#[]⟩) ∧ i.size = 1 ∧ i.bytes = 16 := by
  have h : (Try.prog.info? 9).map (fun i => (i.zero, i.size, i.bytes)) = some (some (.string ⟨#[]⟩), 1, 16) := by kernel_rfl
  obtain ⟨i, hi, e⟩ := Option.map_eq_some_iff.1 h
  injection e with e1 e; injection e with e2 e3
  exact ⟨i, hi, e1, e2, e3⟩
theorem SAt.get {w : World} {p : Option Addr} {n c : Nat} {xs : List (List UInt8)} (h : RowsAt 1 sv1 w (.slice p n c) xs) {k : Nat} {x : List UInt8} (hx : xs[k]? = some x) : ∃ g o, p = some ⟨g, o, none⟩ ∧ w.cell? ⟨g, o + k, none⟩ = some (.string ⟨x.toArray⟩) := by
  have hk := (List.getElem?_eq_some_iff.1 hx).1
  obtain ⟨g, o, hp, hr⟩ := h.open (by omega)
  have h4 := hr k _ hx 0 _ rfl
  rw [Nat.mul_one, Nat.add_zero] at h4
  exact ⟨g, o, hp, h4⟩
theorem load_strk (w : World) (b o : Nat) (v : Value) (h : w.cell? ⟨b, o, none⟩ = some v) : (loadVar 9 ⟨b, o, none⟩).run Try.prog w = .ok v w := by simp [go_sem, h]
theorem str_toList (x : List UInt8) : (⟨x.toArray⟩ : ByteArray).toList = x := by simp
set_option maxRecDepth 100000 in
set_option maxHeartbeats 4000000 in
theorem rsum_any (v : Value) (xs : List (List UInt8)) (w : World) (hv : Hid (RowsAt 1 sv1 w v xs)) (hl : Hid (∀ l ∈ xs, l.length ≤ 10000)) (hn : xs.length ≤ 100000) :
    Calls Try.prog 36 #[v] w fun e w' => e = .returned (.int .i64 (usedOf xs)) ∧ w = w' := by
  obtain ⟨p, c, rfl⟩ := hv.out.slice
  go_enter Try.func36, Try.ntmps36
  go_wp2_with fail
  go_loopw [3, 4] (fun nv iv wr => ∃ (k U : Nat), k ≤ xs.length ∧ iv = .int .i64 k ∧ nv = .int .i64 U ∧ Hid (usedOf (xs.take k) = U) ∧ w = wr) (fun _ iv _ => xs.length - (intOf iv).toNat)
  case atStart => exact ⟨0, 0, by omega, rfl, rfl, Lib.hid rfl, rfl⟩
  case round =>
    obtain ⟨k, U, hk, rfl, rfl, hU, rfl⟩ := hrel
    by_cases hlk : k < xs.length
    · obtain ⟨l, hx⟩ : ∃ x, xs[k]? = some x := ⟨_, List.getElem?_eq_getElem hlk⟩
      obtain ⟨g, o, rfl, hc0⟩ := SAt.get hv.out hx
      have hll := hl.out l (List.mem_of_getElem? hx)
      have hT := Lib.hid (rtakes_any l.length (by omega) w)
      obtain ⟨T, hTe⟩ : ∃ T, takes l.length = T := ⟨_, rfl⟩
      have hTl : T ≤ 200 := by rw [← hTe]; unfold takes; omega
      rw [hTe] at hT
      have hst : Hid (usedOf (xs.take (k + 1)) = U + T) := Lib.hid (by
        obtain ⟨h2, e⟩ := List.getElem?_eq_some_iff.1 hx
        rw [List.take_succ_eq_append_getElem h2, e, usedOf_snoc, hU.out, hTe])
      have hUl : U ≤ 100000000 := by
        have h1 := usedOf_le (xs.take k) (fun l hl2 => hl.out l (List.mem_of_mem_take hl2))
        rw [List.length_take, hU.out] at h1
        omega
      have hsz : (⟨l.toArray⟩ : ByteArray).size = l.length := by show l.toArray.size = l.length; simp
      obtain ⟨X, hX⟩ : ∃ X : ByteArray, ⟨l.toArray⟩ = X := ⟨_, rfl⟩
      rw [hX] at hc0 hsz
      have hX' := Lib.hid hX
      have m1 : (0 : Int) ≤ (k : Int) := by omega
      have m2 : (k : Int) < (xs.length : Int) := by omega
      obtain ⟨ln, hln⟩ : ∃ ln, l.length = ln := ⟨_, rfl⟩
      rw [hln] at hT hsz
      clear hX hx hU hTe hln
      go_wp2_with fail
      refine hT.out.mono ?_
      rintro e w2 ⟨rfl, rfl⟩
      clear hT hc0
      go_wp2_with fail
      exact ⟨⟨k + 1, U + T, by omega, by go_num, by go_num, hst, by first | rfl | trivial⟩, by simp [intOf]; omega⟩
    · obtain rfl : k = xs.length := by omega
      rw [List.take_length] at hU
      go_wp2_with fail
      go_ret
      exact ⟨by rw [hU.out]; rfl, rfl⟩
/-- may entries be? -/
def rightB (l : List UInt8) : Bool := decide (1 ≤ l.length ∧ l.length ≤ 8192)
theorem take_next {α : Type} {xs : List α} {k : Nat} {x : α} (hx : xs[k]? = some x) : xs.take (k + 1) = xs.take k ++ [x] := by
  obtain ⟨h2, e⟩ := List.getElem?_eq_some_iff.1 hx
  rw [List.take_succ_eq_append_getElem h2, e]
set_option maxRecDepth 100000 in
set_option maxHeartbeats 4000000 in
theorem rright_any (v : Value) (xs : List (List UInt8)) (w : World) (hv : Hid (RowsAt 1 sv1 w v xs)) (hl : Hid (∀ l ∈ xs, l.length ≤ 1000000)) (hn : xs.length ≤ 100000) :
    Calls Try.prog 37 #[v] w fun e w' => e = .returned (.bool (xs.all rightB)) ∧ w = w' := by
  obtain ⟨p, c, rfl⟩ := hv.out.slice
  go_enter Try.func37, Try.ntmps37
  go_wp2_with fail
  go_loopw [3] (fun iv wr => ∃ (k : Nat), k ≤ xs.length ∧ iv = .int .i64 k ∧ Hid ((xs.take k).all rightB = true) ∧ w = wr) (fun iv _ => xs.length - (intOf iv).toNat)
  case atStart => exact ⟨0, by omega, rfl, Lib.hid rfl, rfl⟩
  case round =>
    obtain ⟨k, hk, rfl, hU, rfl⟩ := hrel
    by_cases hlk : k < xs.length
    · obtain ⟨l, hx⟩ : ∃ x, xs[k]? = some x := ⟨_, List.getElem?_eq_getElem hlk⟩
      obtain ⟨g, o, rfl, hc0⟩ := SAt.get hv.out hx
      have hll := hl.out l (List.mem_of_getElem? hx)
      have hsz : (⟨l.toArray⟩ : ByteArray).size = l.length := by show l.toArray.size = l.length; simp
      obtain ⟨X, hX⟩ : ∃ X : ByteArray, ⟨l.toArray⟩ = X := ⟨_, rfl⟩
      rw [hX] at hc0 hsz
      have m1 : (0 : Int) ≤ (k : Int) := by omega
      have m2 : (k : Int) < (xs.length : Int) := by omega
      obtain ⟨ln, hln⟩ : ∃ ln, l.length = ln := ⟨_, rfl⟩
      rw [hln] at hsz hll
      have hst : Hid ((xs.take (k + 1)).all rightB = decide (1 ≤ ln ∧ ln ≤ 8192)) := Lib.hid (by
        rw [take_next hx, List.all_append, hU.out, Bool.true_and, List.all_cons, List.all_nil, Bool.and_true, ← hln]; rfl)
      have hmem : Hid (l ∈ xs) := Lib.hid (List.mem_of_getElem? hx)
      have hln' := Lib.hid hln
      clear hX hx hU hln
      by_cases h1 : 1 ≤ ln ∧ ln ≤ 8192
      · have hok : Hid ((xs.take (k + 1)).all rightB = true) := Lib.hid (by rw [hst.out]; exact decide_eq_true h1)
        have a1 : ¬ ((ln : Int) < 1) := by omega
        have a2 : ¬ ((8192 : Int) < (ln : Int)) := by omega
        clear hst h1
        go_wp2_with fail
        exact ⟨⟨k + 1, by omega, by go_num, hok, by first | rfl | trivial⟩, by simp [intOf]; omega⟩
      · have hres : Hid (xs.all rightB = false) := Lib.hid (by
          apply List.all_eq_false.2
          refine ⟨l, hmem.out, ?_⟩
          unfold rightB
          rw [hln'.out]; simpa using h1)
        clear hst
        by_cases h2 : ln < 1
        · have a1 : (ln : Int) < 1 := by omega
          clear h1 h2
          go_wp2_with fail
          go_ret
          exact ⟨by rw [hres.out]; rfl, rfl⟩
        · have a1 : ¬ ((ln : Int) < 1) := by omega
          have a2 : (8192 : Int) < (ln : Int) := by omega
          clear h1 h2
          go_wp2_with fail
          go_ret
          exact ⟨by rw [hres.out]; rfl, rfl⟩
    · obtain rfl : k = xs.length := by omega
      rw [List.take_length] at hU
      go_wp2_with fail
      go_ret
      exact ⟨by rw [hU.out]; rfl, rfl⟩
set_option maxRecDepth 100000 in
set_option maxHeartbeats 4000000 in
theorem rsame_any (a b : Value) (xs ys : List (List UInt8)) (w : World) (ha : Hid (RowsAt 1 sv1 w a xs)) (hb : Hid (RowsAt 1 sv1 w b ys)) (hl1 : xs.length ≤ 100000) (hl2 : ys.length ≤ 100000) :
    Calls Try.prog 38 #[a, b] w fun e w' => e = .returned (.bool (xs == ys)) ∧ Keeps (fun _ => False) w w' := by
  obtain ⟨p, c, rfl⟩ := ha.out.slice
  obtain ⟨q, d, rfl⟩ := hb.out.slice
  by_cases hl : xs.length = ys.length
  · have hl' : ((xs.length : Int) != (ys.length : Int)) = false := by rw [hl]; simp
    have hl'' : (xs.length != ys.length) = false := by rw [hl]; simp
    have hlh := Lib.hid hl
    clear hl
    go_enter Try.func38, Try.ntmps38
    go_wp2_with fail
    go_loopw [5] (fun i wr => ∃ (k m : Nat), k ≤ xs.length ∧ i = .int .i64 k ∧ wr = w.drewN m ∧ Hid (xs.take k = ys.take k)) (fun i _ => xs.length - (intOf i).toNat)
    case atStart => exact ⟨0, 0, by omega, rfl, rfl, Lib.hid (by simp)⟩
    case round =>
      obtain ⟨k, m, hk, rfl, rfl, heq⟩ := hrel
      by_cases hlt : k < xs.length
      · have hlt2 : k < ys.length := by have := hlh.out; omega
        obtain ⟨x, hx⟩ : ∃ x, xs[k]? = some x := ⟨_, List.getElem?_eq_getElem hlt⟩
        obtain ⟨y, hy⟩ : ∃ y, ys[k]? = some y := ⟨_, List.getElem?_eq_getElem hlt2⟩
        obtain ⟨g, o, rfl, c1⟩ := SAt.get ha.out hx
        obtain ⟨g2, o2, rfl, c2⟩ := SAt.get hb.out hy
        obtain ⟨X, hX⟩ : ∃ X : ByteArray, ⟨x.toArray⟩ = X := ⟨_, rfl⟩
        obtain ⟨Y, hY⟩ : ∃ Y : ByteArray, ⟨y.toArray⟩ = Y := ⟨_, rfl⟩
        rw [hX] at c1; rw [hY] at c2
        by_cases he : x = y
        · have hE : (X.toList == Y.toList) = true := by rw [← hX, ← hY, str_toList, str_toList, he]; simp
          have hn : Hid (xs.take (k + 1) = ys.take (k + 1)) := Lib.hid (by rw [take_next hx, take_next hy, heq.out, he])
          clear heq he hX hY hx hy
          go_wp2_with fail
          go_quiet (fail)
          go_wp2_with fail
          go_roundw
          case rel => exact ⟨k + 1, _, by omega, by go_num, rfl, hn⟩
          case measure => simp [intOf]; omega
        · have hE : (X.toList == Y.toList) = false := by rw [← hX, ← hY, str_toList, str_toList]; simpa using he
          have hn : Hid ((xs == ys) = false) := Lib.hid (by rw [beq_eq_false_iff_ne]; rintro rfl; rw [hx] at hy; injection hy with hy; exact he hy)
          clear heq he hX hY hx hy
          go_wp2_with fail
          go_quiet (fail)
          go_wp2_with fail
          go_ret
          exact ⟨by rw [hn.out]; rfl, by first | exact (Keeps.refl _ _).drewN _ | (rw [World.drewN_drewN]; exact (Keeps.refl _ _).drewN _)⟩
      · obtain rfl : k = xs.length := by omega
        have hn : Hid ((xs == ys) = true) := Lib.hid (by
          rw [beq_iff_eq]
          have h := heq.out
          rw [List.take_length, hlh.out, List.take_length] at h
          exact h)
        clear heq
        go_wp2_with fail
        go_ret
        exact ⟨by rw [hn.out]; rfl, (Keeps.refl _ _).drewN _⟩
  · have hl' : ((xs.length : Int) != (ys.length : Int)) = true := by rw [bne_iff_ne]; omega
    have hl'' : (xs.length != ys.length) = true := by simpa using hl
    have hn : Hid ((xs == ys) = false) := Lib.hid (by rw [beq_eq_false_iff_ne]; rintro rfl; exact hl rfl)
    clear hl ha hb
    go_enter Try.func38, Try.ntmps38
    go_wp2_with fail
    go_ret
    exact ⟨by rw [hn.out]; rfl, Keeps.refl _ _⟩
set_option maxRecDepth 100000 in
set_option maxHeartbeats 4000000 in
theorem texts_any (v : Value) (L : List (List UInt8)) (w : World) (hv : Hid (EntsAt w v L)) (hL : L.length ≤ 1000000) (hl : Hid (∀ l ∈ L, 1 ≤ l.length)) :
    Calls Try.prog 39 #[v] w fun e w' => ∃ p c, e = .returned (.slice p L.length c) ∧ OwnR 9 1 sv1 w w' (.slice p L.length c) L ∧ Keeps (fun _ => False) w w' := by
  obtain ⟨p, c, rfl⟩ := hv.out.slice
  obtain ⟨i0, hi0, hi1, hi2, hi3⟩ := strInfoK
  go_enter Try.func39, Try.ntmps39
  go_wp2_with fail
  go_loopw [3, 4] (fun lv iv wr => ∃ (k : Nat) (pl : Option Addr) (cl : Nat), k ≤ L.length ∧ iv = .int .i64 k ∧ lv = .slice pl k cl ∧ Hid (OwnR 9 1 sv1 w wr lv (L.take k)) ∧ Hid (Keeps (fun _ => False) w wr)) (fun _ iv _ => L.length - (intOf iv).toNat)
  case atStart => exact ⟨0, none, 0, by omega, rfl, rfl, Lib.hid (OwnR.nil _ _ (Nat.le_refl _)), Lib.hid (Keeps.refl _ _)⟩
  case round =>
    obtain ⟨k, pl, cl, hk, rfl, rfl, hE, hK⟩ := hrel
    by_cases hlk : k < L.length
    · obtain ⟨l, hx⟩ : ∃ x, L[k]? = some x := ⟨_, List.getElem?_eq_getElem hlk⟩
      obtain ⟨g, o, q, d, rfl, hc0, hb0⟩ := hv.out.get hx
      have hc1 : wr.cell? ⟨g, o + k, none⟩ = some (.slice q l.length d) := (hK.out.cell (p := ⟨g, o + k, none⟩) (World.block_lt_of_cell? w _ hc0) id).trans hc0
      have hcv := conv_bytes (hb0.keep hK.out) (hl.out l (List.mem_of_getElem? hx))
      have hst : Hid (L.take (k + 1) = L.take k ++ [l]) := Lib.hid (take_next hx)
      have hOk := Lib.hid (hE.out.keep ((Keeps.refl (fun _ => False) _).alloc (.cells #[.string ⟨l.toArray⟩] 9)) (fun _ _ f => f))
      have hlt : Hid ((L.take k).length = k) := Lib.hid (by rw [List.length_take]; omega)
      obtain ⟨X, hX⟩ : ∃ X : ByteArray, ⟨l.toArray⟩ = X := ⟨_, rfl⟩
      rw [hX] at hcv hOk
      have hsv : Hid (sv1 l = [.string X]) := Lib.hid (by unfold sv1; rw [hX])
      have m1 : (0 : Int) ≤ (k : Int) := by omega
      have m2 : (k : Int) < (L.length : Int) := by omega
      clear hc0 hb0 hx hX
      go_wp2_with ((with_reducible refine at_slot 18 ?_); go_must (refine wpList_append_r rfl (.tmp 11) (.tmp 17) 47 9 rfl i0 _ 16 Try.underlying47 hi0 hi1 hi2 hi3 rfl (by decide) (by decide) sv1_len w _ k (L.take k) hlt.out rfl hOk.out _ rfl l (by rw [hsv.out]; exact cells_new rfl [.string X] _) (sv1_one l) (by omega) ?_); intro q8 d8 w8 hO8 hg8)
      have hK8 := OwnR.keeps hOk.out (hK.out.alloc (.cells #[.string X] 9)) hg8.out
      exact ⟨⟨k + 1, q8, d8, by omega, by go_num, rfl, Lib.hid (by rw [hst.out]; exact hO8.out), Lib.hid hK8⟩, by simp [intOf]; omega⟩
    · obtain rfl : k = L.length := by omega
      rw [List.take_length] at hE
      go_wp2_with fail
      go_ret
      exact ⟨pl, cl, rfl, hE.out, hK.out⟩
/-! bytes of a text: a new block with the mark -/
theorem bytesWorld_keep (w : World) (t : TypeId) (s : ByteArray) : Keeps (fun _ => False) w (Lib.bytesWorld w t s) :=
  ⟨rfl, rfl, rfl, by rw [Lib.bytesWorld_size]; omega, fun k hk _ => Lib.bytesWorld_at_old w t s k hk⟩
/-- entries in a row of the call's own -/
def OwnT (w0 w : World) (ev : Value) (L : List (List UInt8)) : Prop := ∃ vs : List Value, vs.length = L.length ∧ OwnR 27 1 vv w0 w ev vs ∧
  ∀ (i : Nat) (v : Value) (l : List UInt8), vs[i]? = some v → L[i]? = some l → BytesAt w v l ∧ ∀ k, v.ownBlock = some k → ∃ cs r, w.heap[k]? = some (.cells cs 5 r)
theorem OwnT.nil (w0 w : World) (h : w0.heap.size ≤ w.heap.size) : OwnT w0 w (.slice none 0 0) [] := ⟨[], rfl, OwnR.nil _ _ h, fun i v l h => by simp at h⟩
theorem OwnT.t {w0 w : World} {ev : Value} {L : List (List UInt8)} (h : OwnT w0 w ev L) : EntsT w ev L := by
  obtain ⟨vs, h1, h2, h3⟩ := h
  exact ⟨vs, h1, h2.at vv_len, fun _ k e => h2.ty e, fun i v l a b => ⟨(h3 i v l a b).1, fun _ k e => (h3 i v l a b).2 k e⟩⟩
theorem bytes_keepTy {F : Nat → Prop} {w w' : World} {v : Value} {l : List UInt8} (h : BytesAt w v l ∧ ∀ k, v.ownBlock = some k → ∃ cs r, w.heap[k]? = some (.cells cs 5 r)) (k : Keeps F w w') (hF : ∀ i, F i → ¬ ∃ cs r, w.heap[i]? = some (.cells cs 5 r)) : BytesAt w' v l ∧ ∀ k, v.ownBlock = some k → ∃ cs r, w'.heap[k]? = some (.cells cs 5 r) := by
  have a2 : ∀ i, v.ownBlock = some i → ¬ F i := fun i e f => hF i f (h.2 i e)
  refine ⟨h.1.keepF k (fun _ => a2), fun j e => ?_⟩
  obtain ⟨cs, r, e2⟩ := h.2 j e
  exact ⟨cs, r, by rw [k.block j (lt_of_block e2) (a2 j e)]; exact e2⟩
theorem OwnT.keep {w0 w w' : World} {ev : Value} {L : List (List UInt8)} (h : OwnT w0 w ev L) (k : Keeps (fun _ => False) w w') : OwnT w0 w' ev L := by
  obtain ⟨vs, h1, h2, h3⟩ := h
  exact ⟨vs, h1, h2.keep k (fun _ _ f => f), fun i v l a b => bytes_keepTy (h3 i v l a b) k (fun _ f => f.elim)⟩
theorem OwnT.snoc {w0 w w' : World} {ev : Value} {L : List (List UInt8)} {p : Option Addr} {n c : Nat} {v : Value} {l : List UInt8} {vs : List Value} (h1 : vs.length = L.length) (h2 : OwnR 27 1 vv w0 w ev vs) (h3 : ∀ (i : Nat) (v : Value) (l : List UInt8), vs[i]? = some v → L[i]? = some l → BytesAt w v l ∧ ∀ k, v.ownBlock = some k → ∃ cs r, w.heap[k]? = some (.cells cs 5 r))
    (hv : BytesAt w v l ∧ ∀ k, v.ownBlock = some k → ∃ cs r, w.heap[k]? = some (.cells cs 5 r)) (ho : OwnR 27 1 vv w0 w' (.slice p n c) (vs ++ [v])) (g : Grown w ev p n c w') : OwnT w0 w' (.slice p n c) (L ++ [l]) := by
  have hk : ∀ {u : Value} {x : List UInt8}, (BytesAt w u x ∧ ∀ k, u.ownBlock = some k → ∃ cs r, w.heap[k]? = some (.cells cs 5 r)) → BytesAt w' u x ∧ ∀ k, u.ownBlock = some k → ∃ cs r, w'.heap[k]? = some (.cells cs 5 r) := fun hu => bytes_keepTy hu g.k (fun i e ⟨cs, r, a⟩ => by
    obtain ⟨cs2, r2, b⟩ := h2.ty e
    rw [a] at b
    injection b with b
    injection b with _ b _
    revert b; decide)
  refine ⟨vs ++ [v], by simp [h1], ho, fun i u x hu hx => ?_⟩
  by_cases hi : i < vs.length
  · rw [List.getElem?_append_left hi] at hu
    rw [List.getElem?_append_left (by omega)] at hx
    exact hk (h3 i u x hu hx)
  · rw [List.getElem?_append_right (by omega)] at hu hx
    have hi2 : i - vs.length = 0 := by have := (List.getElem?_eq_some_iff.1 hu).1; simp at this; omega
    rw [hi2] at hu
    rw [← h1, hi2] at hx
    injection hu with hu; injection hx with hx
    subst hu; subst hx
    exact hk hv
/-- []byte(s) -/
theorem str_bytes (w : World) (l : List UInt8) (X : ByteArray) (hX : ⟨l.toArray⟩ = X) (hl : l.length ≤ 1000000) : ∃ (n c : Nat) (w' : World), n = l.length ∧ (convert 9 27 (.string X)).run Try.prog w = .ok (.slice (some ⟨w.heap.size, 0, none⟩) n c) w' ∧ Keeps (fun _ => False) w w' ∧ w.heap.size < w'.heap.size ∧
    (BytesAt w' (.slice (some ⟨w.heap.size, 0, none⟩) n c) l ∧ ∀ k, (Value.slice (some ⟨w.heap.size, 0, none⟩) n c).ownBlock = some k → ∃ cs r, w'.heap[k]? = some (.cells cs 5 r)) := by
  have hsz : X.size = l.length := by rw [← hX]; show l.toArray.size = l.length; simp
  refine ⟨X.size, grownCap w X.size 0 5, Lib.bytesWorld w 5 X, hsz, Lib.run_convert_string_bytes (P := Try.prog) w 9 27 5 X Try.underlying9 Try.underlying27 Try.underlying5, bytesWorld_keep _ _ _, by rw [Lib.bytesWorld_size]; omega, BytesAt.of hsz.symm ?_ (fun j u hu => ?_), fun k e => ?_⟩
  · exact grownCap_ge _ _ _ _
  · rw [Nat.zero_add]
    have hj : j < l.length := by have := (List.getElem?_eq_some_iff.1 hu).1; simpa using this
    rw [Lib.bytesWorld_cell w 5 X j (by omega), ← hX]
    rw [List.getElem?_map, List.getElem?_eq_getElem hj] at hu
    injection hu with hu
    rw [← hu]
    show some (Value.int .u8 ((l.toArray.toList.getD j 0).toNat)) = _
    simp [bv, hj]
  · simp only [Value.ownBlock, Option.some.injEq] at e
    subst e
    exact ⟨_, _, Lib.bytesWorld_at_new w 5 X⟩
set_option maxRecDepth 100000 in
set_option maxHeartbeats 4000000 in
theorem lists_any (v : Value) (L : List (List UInt8)) (w : World) (hv : Hid (RowsAt 1 sv1 w v L)) (hL : L.length ≤ 1000000) (hl : Hid (∀ l ∈ L, l.length ≤ 1000000)) :
    Calls Try.prog 35 #[v] w fun e w' => ∃ p c, e = .returned (.slice p L.length c) ∧ OwnT w w' (.slice p L.length c) L ∧ Keeps (fun _ => False) w w' := by
  obtain ⟨p, c, rfl⟩ := hv.out.slice
  obtain ⟨i0, hi0, hi1, hi2, hi3⟩ := bytesAll
  go_enter Try.func35, Try.ntmps35
  go_wp2_with fail
  go_loopw [3, 4] (fun lv iv wr => ∃ (k : Nat) (pl : Option Addr) (cl : Nat), k ≤ L.length ∧ iv = .int .i64 k ∧ lv = .slice pl k cl ∧ Hid (OwnT w wr lv (L.take k)) ∧ Hid (Keeps (fun _ => False) w wr)) (fun _ iv _ => L.length - (intOf iv).toNat)
  case atStart => exact ⟨0, none, 0, by omega, rfl, rfl, Lib.hid (OwnT.nil _ _ (Nat.le_refl _)), Lib.hid (Keeps.refl _ _)⟩
  case round =>
    obtain ⟨k, pl, cl, hk, rfl, rfl, hE, hK⟩ := hrel
    by_cases hlk : k < L.length
    · obtain ⟨l, hx⟩ : ∃ x, L[k]? = some x := ⟨_, List.getElem?_eq_getElem hlk⟩
      obtain ⟨g, o, rfl, hc0⟩ := SAt.get hv.out hx
      obtain ⟨X, hX⟩ : ∃ X : ByteArray, ⟨l.toArray⟩ = X := ⟨_, rfl⟩
      rw [hX] at hc0
      have hc1 : wr.cell? ⟨g, o + k, none⟩ = some (.string X) := (hK.out.cell (p := ⟨g, o + k, none⟩) (World.block_lt_of_cell? w _ hc0) id).trans hc0
      obtain ⟨nb, cb, w2, hnb, hcv, k2, hs2, hb2⟩ := str_bytes wr l X hX (hl.out l (List.mem_of_getElem? hx))
      have hst : Hid (L.take (k + 1) = L.take k ++ [l]) := Lib.hid (take_next hx)
      have hE2 := Lib.hid (hE.out.keep k2)
      have hK2 := Lib.hid (hK.out.trans k2)
      have hb2' := Lib.hid hb2
      obtain ⟨vs, hvs, hOv, hvb⟩ := hE2.out
      have hvs2 : Hid (vs.length = k) := Lib.hid (by rw [hvs, List.length_take]; omega)
      have hvs' := Lib.hid hvs
      have hOv' := Lib.hid hOv
      have hvb' := Lib.hid hvb
      have hOk := Lib.hid (hOv'.out.keep ((Keeps.refl (fun _ => False) _).alloc (.cells #[.slice (some ⟨wr.heap.size, 0, none⟩) nb cb] 27)) (fun _ _ f => f))
      have m1 : (0 : Int) ≤ (k : Int) := by omega
      have m2 : (k : Int) < (L.length : Int) := by omega
      have hkp := Lib.hid k2
      clear hc0 hx hX hvs hOv hvb hb2 k2 hE hK hnb hs2
      go_wp2_with ((with_reducible refine at_slot 18 ?_); go_must (refine wpList_append_r rfl (.tmp 11) (.tmp 17) 63 27 rfl i0 _ 24 Try.underlying63 hi0 hi1 hi2 hi3 rfl (by decide) (by decide) vv_len w _ k vs hvs2.out rfl hOk.out _ rfl (.slice (some ⟨wr.heap.size, 0, none⟩) nb cb) (cells_new rfl [.slice (some ⟨wr.heap.size, 0, none⟩) nb cb] _) vv_one (by omega) ?_); intro q8 d8 w8 hO8 hg8)
      have ka := (Keeps.refl (fun _ => False) w2).alloc (.cells #[.slice (some ⟨wr.heap.size, 0, none⟩) nb cb] 27)
      have hE8 := OwnT.snoc hvs'.out hOk.out (fun i u z a b => bytes_keepTy (hvb'.out i u z a b) ka (fun _ f => f.elim)) (bytes_keepTy hb2'.out ka (fun _ f => f.elim)) hO8.out hg8.out
      have hK8 := OwnR.keeps hOk.out (hK2.out.alloc (.cells #[.slice (some ⟨wr.heap.size, 0, none⟩) nb cb] 27)) hg8.out
      exact ⟨⟨k + 1, q8, d8, by omega, by go_num, rfl, Lib.hid (by rw [hst.out]; exact hE8), Lib.hid hK8⟩, by simp [intOf]; omega⟩
    · obtain rfl : k = L.length := by omega
      rw [List.take_length] at hE
      go_wp2_with fail
      go_ret
      exact ⟨pl, cl, rfl, hE.out, hK.out⟩
end Go.Proofs.Ytcmpbablmofofaa
