/- slices.Grow of nothing, slices.Concat of voters, putFirst: walked. -/
import Derived.Test.YtdjbgjcniacgdaaELE
import Derived.Lib.AppendZeros
namespace Go.Proofs.Ytdjbgjcniacgdaa
open Go.RowKit

set_option maxRecDepth 100000 in
theorem elGrow_any (n : Nat) (h0 : 0 < n) (hn : n ≤ 1000000) (w : World) :
    Calls Try.prog 18 #[.slice none 0 0, .int .i64 n] w (fun e w' => (∃ v, e = .returned v ∧ OwnV w w' v []) ∧ Keeps (fun _ => False) w w') := by
  obtain ⟨i0, hi0, hz0, hz1, hz2⟩ := vote_parts
  have hrz := Lib.run_append_nil_zeros (P := Try.prog) w 23 3 23 26 i0 _ .i64 .i64 Try.underlying23 Try.underlying3 hi0 hz0 n h0 (by omega) (by omega) (by rw [hz2]; omega)
  have hge : n ≤ grownCap w n 0 26 := grownCap_ge w _ _ _
  have hle := grownCap_le_maxLen w n 0 26 (by unfold maxLen; omega)
  obtain ⟨G, hG⟩ : ∃ G, G = grownCap w n 0 26 := ⟨_, rfl⟩
  rw [← hG] at hrz hge hle
  obtain ⟨cs, hcs⟩ : ∃ cs, cs = Builtin.zeroCells (Value.agg #[.int .u32 0, .int .u32 0, .int .i64 0, .int .u32 0, .int .u32 0]).cells n ++ Builtin.zeroCells (Value.agg #[.int .u32 0, .int .u32 0, .int .i64 0, .int .u32 0, .int .u32 0]).cells (G - n) := ⟨_, rfl⟩
  rw [← hcs] at hrz
  have hsz : Hid (cs.size = G * 5) := Lib.hid (by
    rw [hcs, Array.size_append, size_zeroCells, size_zeroCells, show (Value.agg #[.int .u32 0, .int .u32 0, .int .i64 0, .int .u32 0, .int .u32 0]).cells.size = 5 from rfl]; omega)
  have hle' : Hid (G ≤ maxLen) := Lib.hid hle
  have hg63 : G ≤ 9223372036854775807 := by unfold maxLen at hle; omega
  clear hG hcs hle
  go_enter Try.func18, Try.ntmps18
  go_wp2_with (at_builtin; refine Lib.wpList_append_run _ rfl _ _ _ _ rfl _ _ rfl rfl _ _ hrz ?_)
  go_ret
  refine ⟨⟨_, rfl, ⟨rfl, .inr ⟨w.heap.size, G, cs, rfl, Nat.zero_le _, heap_alloc_last w.drew _, Nat.zero_le _, hle'.out, hsz.out, rfl⟩⟩, fun k e => ?_, ?_⟩, ((Keeps.refl (fun _ => False) w).drew).alloc _⟩
  · have e : some w.heap.size = some k := e
    injection e with e; omega
  · simp
/-- parts in memory, one behind the other -/
structure PartsAt (w : World) (h : Nat) (vs : List Value) (ps : List (List VotD)) : Prop where
  len : vs.length = ps.length
  row : w.rangeAt h 0 vs
  at_ : ∀ (k : Nat) (l : List VotD), ps[k]? = some l → ∃ ad c, vs[k]? = some (Value.slice (some ad) l.length c) ∧ VotersAt w (.slice (some ad) l.length c) l
theorem PartsAt.keep {w w' : World} {h : Nat} {vs : List Value} {ps : List (List VotD)} (p : PartsAt w h vs ps) (k : Keeps (fun _ => False) w w') : PartsAt w' h vs ps :=
  ⟨p.len, k.rangeAt p.row id, fun j l hj => by obtain ⟨ad, c, h1, h2⟩ := p.at_ j l hj; exact ⟨ad, c, h1, h2.keep k⟩⟩
theorem take_flat (ps : List (List VotD)) (k : Nat) (l : List VotD) (h : ps[k]? = some l) : (ps.take (k + 1)).flatten = (ps.take k).flatten ++ l := by
  obtain ⟨hk, rfl⟩ := List.getElem?_eq_some_iff.1 h
  rw [List.take_succ_eq_append_getElem hk, List.flatten_append]; simp
theorem take_flat_le (ps : List (List VotD)) (k : Nat) : (ps.take k).flatten.length ≤ ps.flatten.length := by
  conv => rhs; rw [← List.take_append_drop k ps]
  rw [List.flatten_append, List.length_append]; omega
set_option maxRecDepth 100000 in
set_option maxHeartbeats 1000000 in
theorem elConcat_any (h c n : Nat) (vs : List Value) (ps : List (List VotD)) (hn : ps.length = n) (hsm : n ≤ 1000) (h0 : 0 < ps.flatten.length) (hl : ps.flatten.length ≤ 1000000) (w : World) (hp : Hid (PartsAt w h vs ps)) :
    Calls Try.prog 13 #[.slice (some ⟨h, 0, none⟩) n c] w (fun e w' => (∃ v, e = .returned v ∧ OwnV w w' v ps.flatten) ∧ Keeps (fun _ => False) w w') := by
  obtain ⟨i0, hi0, hz0, hz1, hz2⟩ := vote_parts
  obtain ⟨F, hF⟩ : ∃ F, ps.flatten.length = F := ⟨_, rfl⟩
  rw [hF] at h0 hl
  have hF' := Lib.hid hF
  clear hF
  go_enter Try.func13, Try.ntmps13
  go_wp2_with fail
  go_loop [3, 11] (fun sv iv => ∃ k : Nat, k ≤ n ∧ sv = .int .i64 ((ps.take k).flatten.length : Nat) ∧ iv = .int .i64 k) (fun _ iv => n - (intOf iv).toNat)
  case atStart => exact ⟨0, by omega, rfl, rfl⟩
  case round =>
    obtain ⟨k, hk, rfl, rfl⟩ := hrel
    by_cases hlk : k < n
    · obtain ⟨l, hll⟩ : ∃ l, ps[k]? = some l := ⟨_, List.getElem?_eq_getElem (by omega)⟩
      obtain ⟨ad, cc, hv, hV⟩ := hp.out.at_ k l hll
      have hc := hp.out.row k _ hv
      rw [Nat.zero_add] at hc
      have ht := take_flat ps k l hll
      have hle := take_flat_le ps (k + 1)
      rw [ht, List.length_append, hF'.out] at hle
      obtain ⟨m, hm⟩ : ∃ m, (ps.take k).flatten.length = m := ⟨_, rfl⟩
      have ht2 : Hid ((ps.take (k + 1)).flatten.length = m + l.length) := Lib.hid (by rw [ht, List.length_append, hm])
      rw [hm] at hle ⊢
      clear ht hm hll hv hV
      go_wp2_with fail
      exact ⟨⟨k + 1, by omega, by rw [ht2.out]; go_num, by go_num⟩, by simp [intOf]; omega⟩
    · obtain rfl : k = n := by omega
      rw [show ps.take k = ps from List.take_of_length_le (by omega), hF'.out]
      go_wp2_with fail
      refine (elGrow_any F h0 hl w).mono ?_
      rintro e w1 ⟨⟨gv, rfl, ho⟩, k1⟩
      obtain ⟨q0, d0, rfl⟩ := ho.slice
      have ho' : Hid (OwnV w w1 (.slice q0 ([] : List VotD).length d0) ([] : List VotD)) := Lib.hid ho
      have k1' := Lib.hid k1
      clear ho k1
      go_wp2_with fail
      go_loopw [6, 27] (fun sv iv wr => ∃ (j m : Nat) (q : Option Addr) (d : Nat), j ≤ k ∧ sv = .slice q m d ∧ iv = .int .i64 j ∧ Hid ((ps.take j).flatten.length = m) ∧ Hid (OwnV w wr (.slice q m d) (ps.take j).flatten) ∧ Hid (Keeps (fun _ => False) w wr)) (fun _ iv _ => k - (intOf iv).toNat)
      case atStart => exact ⟨0, 0, q0, d0, by omega, rfl, rfl, Lib.hid rfl, ho', k1'⟩
      case round =>
        obtain ⟨j, m, q, d, hj, rfl, rfl, hm, hown, hkr⟩ := hrel
        by_cases hlj : j < k
        · obtain ⟨l, hll⟩ : ∃ l, ps[j]? = some l := ⟨_, List.getElem?_eq_getElem (by omega)⟩
          have hpw := hp.out.keep hkr.out
          obtain ⟨ad, cc, hv, hV⟩ := hpw.at_ j l hll
          have hc := hpw.row j _ hv
          rw [Nat.zero_add] at hc
          have ht := take_flat ps j l hll
          have hle := take_flat_le ps (j + 1)
          rw [ht, List.length_append, hF'.out, hm.out] at hle
          have ht2 : Hid ((ps.take (j + 1)).flatten = (ps.take j).flatten ++ l) := Lib.hid ht
          have hV' := Lib.hid hV
          clear ht hll hv hV hpw
          go_wp2_with ((with_reducible refine at_slot 33 ?_); refine wpList_append_v rfl (.tmp 31) (.tmp 32) 23 rfl i0 Try.underlying23 hi0 hz0 hz1 hz2 w _ m (ps.take j).flatten hm.out rfl hown.out ad l.length cc l rfl rfl hV'.out (by omega) ?_; intro q2 d2 w2 ho2 hk2 hs2)
          have hk3 : Hid (Keeps (fun _ => False) w w2) := Lib.hid (hkr.out.trans' hk2.out (fun i e => .inr (hown.out.2.1 i e)))
          exact ⟨⟨j + 1, m + l.length, q2, d2, by omega, rfl, by go_num, Lib.hid (by rw [ht2.out, List.length_append, hm.out]), Lib.hid (by rw [ht2.out]; exact ho2.out), hk3⟩, by simp [intOf]; omega⟩
        · obtain rfl : j = k := by omega
          have hall : ps.take j = ps := List.take_of_length_le (by omega)
          rw [hall] at hown
          clear hall
          go_wp2_with fail
          go_ret
          exact ⟨⟨_, rfl, hown.out⟩, hkr.out⟩
end Go.Proofs.Ytdjbgjcniacgdaa
