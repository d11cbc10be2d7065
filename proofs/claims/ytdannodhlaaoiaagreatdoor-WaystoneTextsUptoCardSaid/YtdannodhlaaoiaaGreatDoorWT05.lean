/- Rows of texts; IsWord. -/
import Derived.Test.YtdannodhlaaoiaaGreatDoorWT04
import Derived.Test.YtdannodhlaaoiaaGreatDoorWT03
import Derived.StillTailTactics
set_option linter.unusedVariables false
set_option linter.unusedSimpArgs false
namespace Go.Proofs.YtdannodhlaaoiaaGreatDoor
open Go.RowKit

def StrsAt (w : World) (v : Value) (xs : List (List UInt8)) : Prop := ∃ p c, v = .slice p xs.length c ∧ (0 < xs.length → ∃ g o, p = some ⟨g, o, none⟩ ∧ w.rangeAt g o (xs.map strv))
theorem OwnStrs.at {w0 w : World} {v : Value} {xs : List (List UInt8)} (h : OwnStrs w0 w v xs) : StrsAt w v xs := by
  obtain ⟨p, c, rfl⟩ := h.slice
  refine ⟨p, c, rfl, fun h0 => ?_⟩
  rcases h.1.2 with ⟨_, h2⟩ | ⟨g, cap, cur, he, _⟩
  · first | omega | (simp at h2; subst h2; simp at h0)
  · injection he with e1 e2 e3
    subst e1
    refine ⟨g, 0, rfl, fun j u hu => ?_⟩
    have := h.1.cells (g := g) rfl j u hu
    rw [Addr.add_mid] at this
    exact this
theorem StrsAt.keep {F : Nat → Prop} {w w' : World} {v : Value} {xs : List (List UInt8)} (h : StrsAt w v xs) (k : Keeps F w w') (hF : 0 < xs.length → ∀ i, v.ownBlock = some i → ¬ F i) : StrsAt w' v xs := by
  obtain ⟨p, c, rfl, h⟩ := h
  refine ⟨p, c, rfl, fun h0 => ?_⟩
  obtain ⟨g, o, rfl, hr⟩ := h h0
  exact ⟨g, o, rfl, k.rangeAt hr (hF h0 g rfl)⟩

theorem ba_toList (x : List UInt8) : (⟨x.toArray⟩ : ByteArray).toList = x := by simp

set_option maxRecDepth 100000 in
theorem isWord_any (s : ByteArray) (r : Bool) (w : World) (hs : s.size ≤ 9223372036854775807) (hr : Hid (isWordB s.data.toList = r)) :
    Calls Tryz.prog 116 #[.string s] w fun e w' => e = .returned (.bool r) ∧ w = w' := by
  have hiff := isWord_iff (s := s.data.toList)
  rw [hr.out] at hiff
  have hl : s.data.toList.length = s.size := by simp
  rw [hl] at hiff
  by_cases h1 : 1 ≤ s.size ∧ s.size ≤ 31
  · have hf : Hid (decide ((1 : Int) ≤ (s.size : Int) ∧ (s.size : Int) ≤ 31) = true) := Lib.hid (by simp; omega)
    obtain ⟨m, hm⟩ : ∃ m, 0 + wlen (s.data.toList.drop 0) = m := ⟨_, rfl⟩
    have hm2 : wlen s.data.toList = m := by simpa using hm
    rw [hm2] at hiff
    by_cases h2 : m = s.size
    · obtain rfl : r = true := by rw [hiff]; simp [h1, h2]
      have h3 : ((m : Int) == (s.size : Int)) = true := by rw [h2]; simp
      have h4 : (m == s.size) = true := by simp [h2]
      have hm' := Lib.hid hm; clear hm hm2 hiff hl h1 h2
      go_enter Tryz.func116, Tryz.ntmps116
      go_wp2_with (first | (go_at_call 68; refine (fits_r _ true _ (by omega) hf).mono ?_; rintro e w' ⟨rfl, rfl⟩) | (go_at_call 67; refine (wordEnd_any s 0 m _ hm' hs (by omega)).mono ?_; rintro e w' ⟨rfl, rfl⟩))
      go_ret
      exact ⟨rfl, rfl⟩
    · obtain rfl : r = false := by rw [hiff]; simp [h2]
      have h3 : ((m : Int) == (s.size : Int)) = false := by rw [beq_eq_false_iff_ne]; omega
      have h4 : (m == s.size) = false := by simpa using h2
      have hm' := Lib.hid hm; clear hm hm2 hiff hl h1 h2
      go_enter Tryz.func116, Tryz.ntmps116
      go_wp2_with (first | (go_at_call 68; refine (fits_r _ true _ (by omega) hf).mono ?_; rintro e w' ⟨rfl, rfl⟩) | (go_at_call 67; refine (wordEnd_any s 0 m _ hm' hs (by omega)).mono ?_; rintro e w' ⟨rfl, rfl⟩))
      go_ret
      exact ⟨rfl, rfl⟩
  · have hf : Hid (decide ((1 : Int) ≤ (s.size : Int) ∧ (s.size : Int) ≤ 31) = false) := Lib.hid (by simp; omega)
    obtain rfl : r = false := by rw [hiff, decide_eq_false_iff_not]; rintro ⟨a, b, _⟩; exact h1 ⟨a, b⟩
    clear hiff hl h1
    go_enter Tryz.func116, Tryz.ntmps116
    go_wp2_with (go_at_call 68; refine (fits_r _ false _ (by omega) hf).mono ?_; rintro e w' ⟨rfl, rfl⟩)
    go_ret
    exact ⟨rfl, rfl⟩

theorem strs_lit (w w1 : World) (xs : List (List UInt8)) (n : Nat) (hn : n = xs.length) (hc : ∀ j u, (xs.map strv)[j]? = some u → w.cell? ⟨w1.heap.size, j, none⟩ = some u) : StrsAt w (.slice (some ⟨w1.heap.size, 0, none⟩) n n) xs := by
  subst hn
  exact ⟨_, _, rfl, fun _ => ⟨_, _, rfl, fun j u hu => by rw [Nat.zero_add]; exact hc j u hu⟩⟩
theorem OwnStrs.after {w0 w w' : World} {v : Value} {xs : List (List UInt8)} (h : OwnStrs w0 w v xs) {F : Nat → Prop} (k : Keeps F w w') (hF : ∀ i, F i → i < w0.heap.size) : StrsAt w' v xs :=
  h.at.keep k (fun _ i e f => by have := h.2 i e; have := hF i f; omega)

end Go.Proofs.YtdannodhlaaoiaaGreatDoor
/- The document's Parts, walked. -/
namespace Go.Proofs.YtdannodhlaaoiaaGreatDoor
open Go.RowKit

theorem OwnStrs.one (w : World) (x : List UInt8) : OwnStrs w (w.alloc (.cells #[strv x] 9)) (.slice (some ⟨w.heap.size, 0, none⟩) 1 1) [x] :=
  ⟨⟨rfl, .inr ⟨w.heap.size, 1, #[strv x], rfl, Nat.zero_le _, heap_alloc_last w _, Nat.le_refl _, by unfold maxLen; omega, rfl, rfl⟩⟩, fun k e => by
    have e : some w.heap.size = some k := e
    injection e with e; omega⟩
theorem OwnStrs.last {w0 w : World} {v : Value} {ps : List (List UInt8)} {p : List UInt8} (h : OwnStrs w0 w v (ps ++ [p])) :
    ∃ g c, v = .slice (some ⟨g, 0, none⟩) (ps.length + 1) c ∧ w0.heap.size ≤ g ∧ w.cell? ⟨g, ps.length, none⟩ = some (strv p) ∧ w.frozen? ⟨g, ps.length, none⟩ = false ∧
      ∀ (q : List UInt8) (w' : World), (∀ k, k < w.heap.size → w'.heap[k]? = w.heap[k]?) → OwnStrs w0 (w'.setCell ⟨g, ps.length, none⟩ (strv q)) v (ps ++ [q]) := by
  rcases h.1.2 with ⟨_, h2⟩ | ⟨g, cap, cur, rfl, hb, hgg, hnc, hcm, hcs, htake⟩
  · simp at h2
  · have hl : (ps ++ [p]).length = ps.length + 1 := by simp
    rw [hl] at hnc htake h
    refine ⟨g, cap, by rw [hl], h.2 g rfl, ?_, ?_, ?_⟩
    · have := h.1.cells (g := g) (by simp [Value.ownBlock]) ps.length (strv p) (by simp)
      rw [Addr.add_mid] at this
      simpa using this
    · simp [World.frozen?, hgg]
    · intro q w' hw'
      refine ⟨⟨by simp, .inr ⟨g, cap, cur.setIfInBounds ps.length (strv q), by simp, hb, ?_, by simpa using hnc, hcm, by simp [hcs], ?_⟩⟩, h.2⟩
      · have hlt := lt_of_block hgg
        have hg' := (hw' g hlt).trans hgg
        simp [World.setCell, Array.getElem?_modify, hg']
      · have e : ((ps ++ [p]).map strv).set ps.length (strv q) = (ps ++ [q]).map strv := by
          rw [List.map_append, List.map_append, List.set_append_right _ _ (by simp)]
          simp
        rw [← e, ← htake]
        simp [List.take_set]

def PartsPost (t : List UInt8) (c : UInt8) (w0 : World) (e : Ending) (w' : World) : Prop :=
  ∃ p d, e = .returned (.slice p (partsL c t).length d) ∧ OwnStrs w0 w' (.slice p (partsL c t).length d) (partsL c t) ∧ Keeps (fun _ => False) w0 w'
theorem PartsPost.mk {t : List UInt8} {c : UInt8} {w0 w' : World} {v : Value} (h : OwnStrs w0 w' v (partsL c t)) (k : Keeps (fun _ => False) w0 w') : PartsPost t c w0 (.returned v) w' := by
  obtain ⟨p, d, rfl⟩ := h.slice
  exact ⟨p, d, rfl, h, k⟩
theorem partsL_len (c : UInt8) (l : List UInt8) : (partsL c l).length ≤ l.length + 1 := by
  induction l with
  | nil => simp [partsL]
  | cons b l ih =>
    unfold partsL
    split
    · simp; omega
    · cases hp : partsL c l with
      | nil => simp
      | cons p ps => rw [hp] at ih; simp at ih ⊢; omega
theorem partsL_each (c : UInt8) (l : List UInt8) : ∀ p ∈ partsL c l, p.length ≤ l.length := by
  induction l with
  | nil => simp [partsL]
  | cons b l ih =>
    unfold partsL
    split
    · intro p hp
      rcases List.mem_cons.1 hp with rfl | hp
      · simp
      · have := ih p hp; simp; omega
    · cases hp : partsL c l with
      | nil => simp
      | cons q ps =>
        rw [hp] at ih
        intro p hpm
        rcases List.mem_cons.1 hpm with rfl | hpm
        · have := ih q (by simp); simp; omega
        · have := ih p (by simp [hpm]); simp; omega

set_option maxRecDepth 100000 in
set_option maxHeartbeats 1000000 in
theorem parts_any (s : ByteArray) (c : UInt8) (w : World) (hs : s.size ≤ 8796093022000) :
    Calls Tryz.prog 123 #[.string s, .int .u8 (c.toNat : Nat)] w (PartsPost s.data.toList c w) := by
  obtain ⟨i0, hi, hz0, hz1, hz2⟩ := info_parts strInfoAll
  go_enter Tryz.func123, Tryz.ntmps123
  go_wp2
  go_loopw [5, 6] (fun v i wr => ∃ (k : Nat), k ≤ s.size ∧ i = .int .i64 k ∧ Hid (OwnStrs w wr v (partsL c (s.data.toList.take k))) ∧ Hid (Keeps (fun _ => False) w wr)) (fun _ i _ => s.size - (intOf i).toNat)
  case atStart => exact ⟨0, by omega, rfl, Lib.hid (OwnStrs.one w []), Lib.hid ((Keeps.refl _ _).alloc _)⟩
  case round =>
    obtain ⟨k, hk, rfl, hown, hkeep⟩ := hrel
    by_cases hlt : k < s.size
    · have hl : k < s.data.toList.length := by simpa using hlt
      have hgk : s.data.toList[k] = s[k] := by rw [Array.getElem_toList]; rfl
      have hts : s.data.toList.take (k + 1) = s.data.toList.take k ++ [s[k]] := by rw [List.take_succ_eq_append_getElem hl, hgk]
      have hsn := partsL_snoc c s[k] (s.data.toList.take k)
      rw [← hts] at hsn
      have hpl := partsL_len c (s.data.toList.take k)
      have hpe := partsL_each c (s.data.toList.take k)
      obtain ⟨ps, hps⟩ : ∃ ps, ps = partsL c (s.data.toList.take k) := ⟨_, rfl⟩
      rw [← hps] at hown hsn hpl hpe
      have hpl' : ps.length ≤ k + 1 := by simp at hpl; omega
      have hne : ps ≠ [] := by rw [hps]; exact partsL_ne _ _
      clear hps hts hgk hpl
      by_cases hc : s[k] = c
      · rw [if_pos hc] at hsn
        have d1 : (s[k].toNat == c.toNat) = true := by rw [hc]; simp
        have d2 : ((s[k].toNat : Int) == (c.toNat : Int)) = true := by rw [hc]; simp
        have hsn' := Lib.hid hsn; clear hsn hc hne hpe
        go_wp2_with ((with_reducible refine at_slot 21 ?_); refine wpList_append_sep rfl (.tmp 19) (.tmp 20) 65 rfl 9 i0 (.string ⟨#[]⟩) 1 16 Tryz.underlying65 hi hz0 hz1 hz2 rfl (by decide) _ ps.length (ps.map strv) rfl (hown.out.1.alloc _) ⟨wr.heap.size, 0, none⟩ 1 1 [strv []] rfl rfl (cells_one rfl _ _) (by simp [Value.oneCell', strv]) (by unfold maxLen; omega) (by omega) ?_; intro q d w1 ho1 hg1 hs1; have ho := Lib.hid ho1; clear ho1; have hg := Lib.hid hg1; clear hg1)
        have hR := OwnStrs.push hown.out [] (hkeep.out.alloc _) hg.out ho.out hs1.out
        go_roundw
        case rel => exact ⟨k + 1, by omega, by go_num, by rw [hsn'.out]; exact Lib.hid hR.1, Lib.hid hR.2⟩
        case measure => simp [intOf]; omega
      · rw [if_neg hc] at hsn
        have d1 : (s[k].toNat == c.toNat) = false := by rw [beq_eq_false_iff_ne]; exact fun h => hc (UInt8.toNat_inj.mp h)
        have d2 : ((s[k].toNat : Int) == (c.toNat : Int)) = false := by rw [beq_eq_false_iff_ne]; exact fun h => hc (UInt8.toNat_inj.mp (by omega))
        obtain ⟨qs, q, rfl⟩ : ∃ qs q, ps = qs ++ [q] := ⟨ps.dropLast, ps.getLast hne, (List.dropLast_concat_getLast hne).symm⟩
        rw [pushLast_snoc] at hsn
        obtain ⟨g, cp, rfl, hgb, hcell, hfro, hset⟩ := hown.out.last
        have hql := hpe q (by simp)
        obtain ⟨X, hX⟩ : ∃ X : ByteArray, X = ⟨q.toArray⟩ := ⟨_, rfl⟩
        have hXs : X.size ≤ s.size := by rw [hX]; simp at hql; show q.toArray.size ≤ _; simp; omega
        have hcell' : wr.cell? ⟨g, qs.length, none⟩ = some (.string X) := by rw [hcell, hX]; rfl
        have hnew : Hid (strv (q ++ [s[k]]) = .string (X ++ s.extract k (k + 1))) := Lib.hid (by
          unfold strv
          have e := Lib.extract_eq s k (k + 1)
          rw [drop_at s k hlt, show k + 1 - k = 1 by omega] at e
          rw [e, hX]
          congr 1)
        have hqs : qs.length ≤ k := by simp at hpl'; omega
        have hset' := Lib.hid hset; clear hset
        have hsn' := Lib.hid hsn; have hX' := Lib.hid hX; clear hsn hX hc hne hpe hcell hql hpl'
        go_wp2_with fail
        have l1 : IntKind.i64.wrap (qs.length : Int) = (qs.length : Int) := IntWalk.i64_in _ (by omega)
        have l2 : IntKind.i64.wrap ((k : Int) + 1) = (k : Int) + 1 := IntWalk.i64_in _ (by omega)
        have l3 : (0 : Int) ≤ (qs.length : Int) := by omega
        have l4 : (qs.length : Int) < (qs.length : Int) + 1 := by omega
        have l5 : (0 : Int) ≤ (k : Int) + 1 := by omega
        have l6 : ((k : Int) + 1).toNat = k + 1 := by omega
        have l7 : (k : Int) ≤ (k : Int) + 1 := by omega
        have l8 : (k : Int) + 1 ≤ s.size := by omega
        have l9 : ¬ (9223372036854775807 < X.size + (min (k + 1) s.size - k)) := by omega
        have l10 : ∀ W : World, (Op.stringOp .add X (s.extract k (k + 1))).run Tryz.prog W = .ok (.string (X ++ s.extract k (k + 1))) W := fun W => run_string_add_sum W _ _ (by rw [ByteArray.size_extract]; omega)
        go_still_tail 17, (by kernel_rfl)
        change wpList _ _ _ _ _ wr.drew
        clear l1 l2 l3 l4 l5 l6 l7 l8 l9 l10
        go_wp2_with fail
        have hR := hset'.out (q ++ [s[k]]) wr (fun _ _ => rfl)
        rw [hnew.out, ← hsn'.out] at hR
        exact ⟨⟨k + 1, by omega, by go_num, Lib.hid ⟨hR.1, hR.2⟩, Lib.hid ((hkeep.out.setCell (p := ⟨g, qs.length, none⟩) (.inr hgb) _).drew)⟩, by simp [intOf]; omega⟩
    · obtain rfl : k = s.size := by omega
      have ht : s.data.toList.take s.size = s.data.toList := List.take_of_length_le (by simp)
      rw [ht] at hown
      clear ht
      go_wp2
      go_ret
      exact PartsPost.mk hown.out hkeep.out
end Go.Proofs.YtdannodhlaaoiaaGreatDoor
/- The document's Addr and Net, walked. -/
namespace Go.Proofs.YtdannodhlaaoiaaGreatDoor
open Go.RowKit

/-- new memory beside nothing else -/
def NewRes (v : Value) (w0 : World) (e : Ending) (w' : World) : Prop := e = .returned v ∧ Keeps (fun _ => False) w0 w'
theorem ba_eta (p : List UInt8) : (⟨p.toArray⟩ : ByteArray).data.toList = p := rfl
set_option maxRecDepth 100000 in
set_option maxHeartbeats 1000000 in
theorem rAddr_r (s : ByteArray) (r : Option Nat) (w : World) (hs : s.size ≤ 8796093022000) (hr : Hid (addrL s.data.toList = r)) :
    Calls Tryz.prog 121 #[.string s] w (NewRes (addrRes r) w) := by
  have hq := hr.out
  rw [addrL_eq] at hq
  obtain ⟨ps, hps⟩ : ∃ ps, ps = partsL 46 s.data.toList := ⟨_, rfl⟩
  rw [← hps] at hq
  have hpl := partsL_len 46 s.data.toList
  have hpe := partsL_each 46 s.data.toList
  rw [← hps] at hpl hpe
  have hps' := Lib.hid hps; have hq' := Lib.hid hq; have hpe' := Lib.hid hpe; clear hps hq hpe hr
  have hpl' : ps.length ≤ 8796093022001 := by simp at hpl; omega
  clear hpl
  go_enter Tryz.func121, Tryz.ntmps121
  go_wp2_with fail
  refine (parts_any s 46 _ hs).mono ?_
  rintro e w1 ⟨p, d, rfl, hown, hk⟩
  rw [← hps'.out] at *
  have hown1 := Lib.hid hown; have hk1 := Lib.hid hk
  have hat := hown.at
  clear hown hk
  by_cases h4 : ps.length = 4
  · have hq4 := hq'.out
    rw [if_pos h4] at hq4
    have hq4' := Lib.hid hq4; clear hq4
    obtain ⟨p', c', hpe2, hr0⟩ := hat
    obtain ⟨g, o, rfl, hr1⟩ := hr0 (by omega)
    have e1 : p = some ⟨g, o, none⟩ := by injection hpe2
    subst e1
    have hr1' := Lib.hid hr1; have h4' := Lib.hid h4
    rw [h4]
    clear hpe2 hr0 hr1 h4
    go_wp2_with fail
    go_loop [5, 6] (fun nv iv => ∃ (k n : Nat), k ≤ 4 ∧ iv = .int .i64 k ∧ nv = .int .u32 (n : Nat) ∧ Hid (n < 256 ^ k) ∧ Hid (foldParts n (ps.drop k) = r)) (fun _ iv => 4 - (intOf iv).toNat)
    case atStart => exact ⟨0, 0, by omega, rfl, rfl, Lib.hid (by simp), Lib.hid (by rw [List.drop_zero]; exact hq4'.out)⟩
    case round =>
      obtain ⟨k, n, hk, rfl, rfl, hn, hf⟩ := hrel
      by_cases hk4 : k < 4
      · have hkl : k < ps.length := by have := h4'.out; omega
        have hfd := hf.out
        rw [List.drop_eq_getElem_cons hkl] at hfd
        unfold foldParts at hfd
        have hn4 : n < 16777216 := by
          have h1 := hn.out
          have : 256 ^ k ≤ 256 ^ 3 := Nat.pow_le_pow_right (by omega) (by omega)
          omega
        obtain ⟨X, hX⟩ : ∃ X : ByteArray, X = ⟨(ps[k]).toArray⟩ := ⟨_, rfl⟩
        have c1 : w1.cell? ⟨g, o + k, none⟩ = some (.string X) := by rw [hX]; exact hr1'.out k _ (by simp [hkl, strv])
        have hXl : X.data.toList = ps[k] := by rw [hX]
        rw [← hXl] at hfd
        clear hX hXl
        cases hd : decL X.data.toList with
        | none =>
          rw [hd] at hfd
          have hr2 : Hid (r = none) := Lib.hid hfd.symm
          have hd' := Lib.hid hd; clear hd hfd hf
          go_wp2_with (go_at_call 125; refine (rDec_none X _ hd').mono ?_; rintro e w' ⟨rfl, rfl⟩)
          go_ret2
          exact ⟨by rw [hr2.out]; rfl, hk1.out⟩
        | some b =>
          rw [hd] at hfd
          simp only at hfd
          have hb9 := decL_lt hd
          have hd' := Lib.hid hd; clear hd hf
          by_cases hb : b ≤ 255
          · rw [if_pos hb] at hfd
            have hf' := Lib.hid hfd; clear hfd
            have hn' : Hid (n * 256 + b < 256 ^ (k + 1)) := Lib.hid (by have := hn.out; rw [Nat.pow_succ]; omega)
            go_wp2_with (go_at_call 125; refine (rDec_some X b _ hd').mono ?_; rintro e w' ⟨rfl, rfl⟩)
            go_round
            case rel => exact ⟨k + 1, n * 256 + b, by omega, by go_num, by congr 1, hn', hf'⟩
            case measure => simp [intOf]; omega
          · rw [if_neg hb] at hfd
            have hr2 : Hid (r = none) := Lib.hid hfd.symm
            clear hfd
            go_wp2_with (go_at_call 125; refine (rDec_some X b _ hd').mono ?_; rintro e w' ⟨rfl, rfl⟩)
            go_ret2
            exact ⟨by rw [hr2.out]; rfl, hk1.out⟩
      · obtain rfl : k = 4 := by omega
        have hr2 : Hid (r = some n) := Lib.hid (by
          have := hf.out
          rw [List.drop_of_length_le (by have := h4'.out; omega)] at this
          exact this.symm)
        clear hf
        go_wp2
        go_ret2
        exact ⟨by rw [hr2.out]; rfl, hk1.out⟩
  · have hq4 := hq'.out
    rw [if_neg h4] at hq4
    have hr2 : Hid (r = none) := Lib.hid hq4.symm
    have d1 : ((ps.length : Int) != 4) = true := by rw [bne_iff_ne]; omega
    have d2 : (ps.length != 4) = true := by simpa using h4
    clear hq4 h4 hat
    go_wp2
    go_ret2
    exact ⟨by rw [hr2.out]; rfl, hk1.out⟩
theorem rAddr_none (s : ByteArray) (w : World) (hs : s.size ≤ 8796093022000) (h : Hid (addrL s.data.toList = none)) :
    Calls Tryz.prog 121 #[.string s] w (NewRes (.tuple #[.int .u32 0, .bool false]) w) := rAddr_r s none w hs h
theorem rAddr_some (s : ByteArray) (n : Nat) (w : World) (hs : s.size ≤ 8796093022000) (h : Hid (addrL s.data.toList = some n)) :
    Calls Tryz.prog 121 #[.string s] w (NewRes (.tuple #[.int .u32 (n : Nat), .bool true]) w) := rAddr_r s (some n) w hs h
end Go.Proofs.YtdannodhlaaoiaaGreatDoor
/- The document's Net, walked. -/
namespace Go.Proofs.YtdannodhlaaoiaaGreatDoor
open Go.RowKit

set_option maxRecDepth 100000 in
set_option maxHeartbeats 2000000 in
theorem rNet_r (s : ByteArray) (r : Option (Nat × Nat)) (w : World) (hs : s.size ≤ 8796093022000) (hr : Hid (netL s.data.toList = r)) :
    Calls Tryz.prog 124 #[.string s] w (NewRes (netRes r) w) := by
  have hq := hr.out
  rw [netL_eq] at hq
  obtain ⟨ps, hps⟩ : ∃ ps, ps = partsL 47 s.data.toList := ⟨_, rfl⟩
  rw [← hps] at hq
  have hpl := partsL_len 47 s.data.toList
  have hpe := partsL_each 47 s.data.toList
  rw [← hps] at hpl hpe
  have hps' := Lib.hid hps; have hq' := Lib.hid hq; have hpe' := Lib.hid hpe; clear hps hq hpe hr
  have hpl' : ps.length ≤ 8796093022001 := by simp at hpl; omega
  clear hpl
  go_enter Tryz.func124, Tryz.ntmps124
  go_wp2_with fail
  refine (parts_any s 47 _ hs).mono ?_
  rintro e w1 ⟨p, d, rfl, hown, hk⟩
  rw [← hps'.out] at *
  have hown1 := Lib.hid hown; have hk1 := Lib.hid hk
  have hat := hown.at
  clear hown hk
  by_cases h2 : ps.length = 2
  · obtain ⟨x, y, rfl⟩ : ∃ x y, ps = [x, y] := by
      match ps, h2 with
      | [x, y], _ => exact ⟨x, y, rfl⟩
    have hq2 := hq'.out
    simp only [netParts] at hq2
    obtain ⟨p', c', hpe2, hr0⟩ := hat
    obtain ⟨g, o, rfl, hr1⟩ := hr0 (by simp)
    have e1 : p = some ⟨g, o, none⟩ := by injection hpe2
    subst e1
    obtain ⟨X, hX⟩ : ∃ X : ByteArray, X = ⟨x.toArray⟩ := ⟨_, rfl⟩
    obtain ⟨Y, hY⟩ : ∃ Y : ByteArray, Y = ⟨y.toArray⟩ := ⟨_, rfl⟩
    have c1 : w1.cell? ⟨g, o, none⟩ = some (.string X) := by rw [hX]; exact hr1 0 _ (by simp [strv])
    have c2 : w1.cell? ⟨g, o + 1, none⟩ = some (.string Y) := by rw [hY]; exact hr1 1 _ (by simp [strv])
    have hlt : g < w1.heap.size := World.block_lt_of_cell? w1 _ c1
    have hXl : X.data.toList = x := by rw [hX]
    have hYl : Y.data.toList = y := by rw [hY]
    have hXs : X.size ≤ s.size := by
      have := hpe'.out x (by simp)
      rw [← hXl] at this; simpa using this
    rw [← hXl, ← hYl] at hq2
    clear hX hXl hY hYl hpe2 hr0 hr1 h2
    rw [show [x, y].length = 2 from rfl]
    have kc : ∀ w2, Keeps (fun _ => False) w1 w2 → w2.cell? ⟨g, o + 1, none⟩ = some (.string Y) := fun w2 k => (k.cell (p := ⟨g, o + 1, none⟩) hlt id).trans c2
    have kc' := Lib.hid kc; clear kc c2
    cases ha : addrL X.data.toList with
    | none =>
      rw [ha] at hq2
      have ha' := Lib.hid ha; clear ha
      obtain rfl : r = none := by cases hd : decL Y.data.toList <;> rw [hd] at hq2 <;> exact hq2.symm
      clear hq2
      cases hd : decL Y.data.toList with
      | none =>
        have hd' := Lib.hid hd; clear hd
        go_wp2_with (first | (go_at_call 121; refine (rAddr_none X _ (by omega) ha').mono ?_; rintro e w2 ⟨rfl, hk2⟩; have c2 := kc'.out w2 hk2; have hkr := Lib.hid hk2; clear hk2) | (go_at_call 125; refine (rDec_none Y _ hd').mono ?_; rintro e w' ⟨rfl, rfl⟩))
        go_ret3
        exact ⟨rfl, hk1.out.trans hkr.out⟩
      | some n =>
        have hd' := Lib.hid hd; clear hd
        go_wp2_with (first | (go_at_call 121; refine (rAddr_none X _ (by omega) ha').mono ?_; rintro e w2 ⟨rfl, hk2⟩; have c2 := kc'.out w2 hk2; have hkr := Lib.hid hk2; clear hk2) | (go_at_call 125; refine (rDec_some Y n _ hd').mono ?_; rintro e w' ⟨rfl, rfl⟩))
        go_ret3
        exact ⟨rfl, hk1.out.trans hkr.out⟩
    | some a =>
      rw [ha] at hq2
      have ha' := Lib.hid ha; clear ha
      cases hd : decL Y.data.toList with
      | none =>
        rw [hd] at hq2
        obtain rfl : r = none := hq2.symm
        have hd' := Lib.hid hd; clear hd hq2
        go_wp2_with (first | (go_at_call 121; refine (rAddr_some X a _ (by omega) ha').mono ?_; rintro e w2 ⟨rfl, hk2⟩; have c2 := kc'.out w2 hk2; have hkr := Lib.hid hk2; clear hk2) | (go_at_call 125; refine (rDec_none Y _ hd').mono ?_; rintro e w' ⟨rfl, rfl⟩))
        go_ret3
        exact ⟨rfl, hk1.out.trans hkr.out⟩
      | some n =>
        rw [hd] at hq2
        simp only at hq2
        have hd' := Lib.hid hd; clear hd
        by_cases h1 : 1 ≤ n
        · by_cases h2 : n ≤ 32
          · rw [if_pos ⟨h1, h2⟩] at hq2
            obtain rfl : r = some (a, n) := hq2.symm
            clear hq2
            go_wp2_with (first | (go_at_call 121; refine (rAddr_some X a _ (by omega) ha').mono ?_; rintro e w2 ⟨rfl, hk2⟩; have c2 := kc'.out w2 hk2; have hkr := Lib.hid hk2; clear hk2) | (go_at_call 125; refine (rDec_some Y n _ hd').mono ?_; rintro e w' ⟨rfl, rfl⟩))
            go_ret3
            exact ⟨rfl, hk1.out.trans hkr.out⟩
          · rw [if_neg (by omega)] at hq2
            obtain rfl : r = none := hq2.symm
            clear hq2
            go_wp2_with (first | (go_at_call 121; refine (rAddr_some X a _ (by omega) ha').mono ?_; rintro e w2 ⟨rfl, hk2⟩; have c2 := kc'.out w2 hk2; have hkr := Lib.hid hk2; clear hk2) | (go_at_call 125; refine (rDec_some Y n _ hd').mono ?_; rintro e w' ⟨rfl, rfl⟩))
            go_ret3
            exact ⟨rfl, hk1.out.trans hkr.out⟩
        · rw [if_neg (by omega)] at hq2
          obtain rfl : r = none := hq2.symm
          clear hq2
          go_wp2_with (first | (go_at_call 121; refine (rAddr_some X a _ (by omega) ha').mono ?_; rintro e w2 ⟨rfl, hk2⟩; have c2 := kc'.out w2 hk2; have hkr := Lib.hid hk2; clear hk2) | (go_at_call 125; refine (rDec_some Y n _ hd').mono ?_; rintro e w' ⟨rfl, rfl⟩))
          go_ret3
          exact ⟨rfl, hk1.out.trans hkr.out⟩
  · have hq2 := hq'.out
    have hr2 : Hid (r = none) := Lib.hid (by
      rw [← hq2]
      match ps, h2 with
      | [], _ => rfl
      | [x], _ => rfl
      | [x, y], h => exact (h rfl).elim
      | x :: y :: z :: l, _ => rfl)
    have d1 : ((ps.length : Int) != 2) = true := by rw [bne_iff_ne]; omega
    have d2 : (ps.length != 2) = true := by simpa using h2
    clear hq2 h2 hat
    go_wp2
    go_ret3
    exact ⟨by rw [hr2.out]; rfl, hk1.out⟩
theorem rNet_none (s : ByteArray) (w : World) (hs : s.size ≤ 8796093022000) (h : Hid (netL s.data.toList = none)) :
    Calls Tryz.prog 124 #[.string s] w (NewRes (.tuple #[.int .u32 0, .int .i64 0, .bool false]) w) := rNet_r s none w hs h
theorem rNet_some (s : ByteArray) (a n : Nat) (w : World) (hs : s.size ≤ 8796093022000) (h : Hid (netL s.data.toList = some (a, n))) :
    Calls Tryz.prog 124 #[.string s] w (NewRes (.tuple #[.int .u32 (a : Nat), .int .i64 (n : Nat), .bool true]) w) := rNet_r s (some (a, n)) w hs h
end Go.Proofs.YtdannodhlaaoiaaGreatDoor
/- Named, and the document's Word and Named, walked. -/
namespace Go.Proofs.YtdannodhlaaoiaaGreatDoor
open Go.RowKit

theorem lexWords_one' {t : List UInt8} (h : isWordB t = true) : lexWords t = ([t], t.length, 0) := by
  have := (lexL_one (s := t)).2 h
  unfold lexWords; rw [this.1]
theorem lexWords_not' {t : List UInt8} {l : List (List UInt8)} {n : Nat} (h : isWordB t = false) (hw : lexWords t = (l, n, 0)) (h1 : l = [t]) : t = [123] ∨ t = [125] ∨ t = [59] := by
  subst h1
  have hl : lexL t = .ok [t] := by
    unfold lexWords at hw
    cases h : lexL t with
    | ok m => rw [h] at hw; injection hw with e _; rw [e]
    | bad m => rw [h] at hw; simp at hw
  have hn : ¬ ∀ c, t = [c] → signB c = false := fun hs => by
    have := (lexL_one (s := t)).1 ⟨hl, hs⟩
    rw [this] at h; cases h
  rw [Classical.not_forall] at hn
  obtain ⟨c, hc⟩ := hn
  rw [Classical.not_imp] at hc
  obtain ⟨rfl, hc⟩ := hc
  have hs : signB c = true := by simpa using hc
  have hc : c = 123 ∨ c = 125 ∨ c = 59 := by simpa [signB, or_assoc] using hs
  rcases hc with rfl | rfl | rfl <;> simp
theorem word_no_sign' {t : List UInt8} (h : isWordB t = true) : t ≠ [123] ∧ t ≠ [125] ∧ t ≠ [59] := by
  refine ⟨?_, ?_, ?_⟩ <;> (rintro rfl; revert h; decide)
theorem lexWords_err' (t : List UInt8) : (lexWords t).2.2 = 0 ∨ (lexWords t).2.2 = 3 := by
  unfold lexWords; cases lexL t <;> simp
theorem lexWords_len' (t : List UInt8) : (lexWords t).1.length ≤ t.length := by
  unfold lexWords
  cases h : lexL t with
  | bad n => simp
  | ok l =>
    have h1 := lexL_total t.length t (Nat.le_refl _) l h
    have h2 : ∀ m : List (List UInt8), (∀ w ∈ m, 1 ≤ w.length) → m.length ≤ total m := by
      intro m
      induction m with
      | nil => simp
      | cons a m ih =>
        intro h
        have := ih (fun w hw => h w (by simp [hw]))
        have := h a (by simp)
        simp [total] at *; omega
    have h3 := h2 l (fun w hw => by
      rcases h1.2 w hw with h | ⟨c, rfl, _⟩
      · unfold isWordB at h; simp at h; omega
      · simp)
    show l.length ≤ t.length
    omega
theorem rWords_l' (s : ByteArray) (l : List (List UInt8)) (n er : Nat) (w : World) (hs : s.size ≤ 8796093022208) (h : Hid (lexWords s.data.toList = (l, n, er))) :
    Calls Tryz.prog 132 #[.string s] w fun e w' => ∃ p c, e = .returned (.tuple #[.slice p l.length c, .int .i64 (n : Nat), .int .i64 (er : Nat)]) ∧ OwnStrs w w' (.slice p l.length c) l ∧ Keeps (fun _ => False) w w' :=
  (rWords_any s w hs).mono fun e w' h' => by unfold WordsPost at h'; rw [h.out] at h'; exact h'

set_option maxRecDepth 100000 in
set_option maxHeartbeats 1000000 in
theorem rWord_any (x : ByteArray) (r : Bool) (w : World) (hxs : x.size ≤ 8796093022000) (hr : Hid (isWordB x.data.toList = r)) :
    Calls Tryz.prog 122 #[.string x] w (NewRes (.bool r) w) := by
  go_enter Tryz.func122, Tryz.ntmps122
  go_wp2_with fail
  by_cases hw : isWordB x.data.toList = true
  · obtain rfl : r = true := by rw [← hr.out]; exact hw
    have hL := lexWords_one' hw
    have hL' := Lib.hid hL; clear hL
    obtain ⟨k1, k2, k3⟩ := word_no_sign' hw
    rw [← Lib.toList_data] at k1 k2 k3
    have e1 : (x.toList == [123]) = false := by simpa using k1
    have e2 : (x.toList == [125]) = false := by simpa using k2
    have e3 : (x.toList == [59]) = false := by simpa using k3
    clear k1 k2 k3 hw
    refine (rWords_l' x _ _ _ _ (by omega) hL').mono ?_
    rintro e w2 ⟨p2, c2, rfl, hown, hk⟩
    obtain ⟨g, o, rfl, hr1⟩ : ∃ g o, p2 = some ⟨g, o, none⟩ ∧ w2.rangeAt g o ([x.data.toList].map strv) := by
      obtain ⟨q, d, e, h⟩ := hown.at
      obtain ⟨g, o, rfl, hr⟩ := h (by simp)
      injection e with e1 e2 e3
      exact ⟨g, o, e1, hr⟩
    have c0 : w2.cell? ⟨g, o, none⟩ = some (.string x) := hr1 0 _ rfl
    have hown2 := Lib.hid hown; have hk2 := Lib.hid hk; clear hown hk hr1
    go_wp2
    go_ret
    exact ⟨rfl, hk2.out⟩
  · have hw1 : isWordB x.data.toList = false := by simpa using hw
    obtain rfl : r = false := by rw [← hr.out]; exact hw1
    obtain ⟨l, n, er, hL, hll, her⟩ : ∃ (l : List (List UInt8)) (n er : Nat), lexWords x.data.toList = (l, n, er) ∧ l.length ≤ x.size ∧ (er = 0 ∨ er = 3) :=
      ⟨(lexWords x.data.toList).1, (lexWords x.data.toList).2.1, (lexWords x.data.toList).2.2, rfl, by simpa using lexWords_len' x.data.toList, lexWords_err' _⟩
    have hnot : Hid (er = 0 → l = [x.data.toList] → x.data.toList = [123] ∨ x.data.toList = [125] ∨ x.data.toList = [59]) := Lib.hid fun h0 h1 => lexWords_not' hw1 (h0 ▸ hL) h1
    have hL' := Lib.hid hL; clear hL hw hw1
    refine (rWords_l' x l n er _ (by omega) hL').mono ?_
    rintro e w2 ⟨p2, c2, rfl, hown, hk⟩
    have hown2 := Lib.hid hown; have hk2 := Lib.hid hk; clear hown hk
    rcases her with rfl | rfl
    · by_cases hl1 : l.length = 1
      · obtain ⟨y, rfl⟩ := List.length_eq_one_iff.1 hl1
        clear hl1 hll
        obtain ⟨g, o, rfl, hr1⟩ : ∃ g o, p2 = some ⟨g, o, none⟩ ∧ w2.rangeAt g o ([y].map strv) := by
          obtain ⟨q, d, e, h⟩ := hown2.out.at
          obtain ⟨g, o, rfl, hr⟩ := h (by simp)
          injection e with e1 e2 e3
          exact ⟨g, o, e1, hr⟩
        obtain ⟨Y, hY⟩ : ∃ Y : ByteArray, Y = ⟨y.toArray⟩ := ⟨_, rfl⟩
        have c0 : w2.cell? ⟨g, o, none⟩ = some (.string Y) := by rw [hY]; exact hr1 0 _ rfl
        have hYl : Y.toList = y := by rw [hY, Lib.toList_data]
        clear hr1 hY
        by_cases hyx : y = x.data.toList
        · have hs3 := hnot.out rfl (by rw [hyx])
          rw [← Lib.toList_data] at hs3 hyx
          have hE : (Y.toList == x.toList) = true := by rw [hYl, hyx]; simp
          have hy' := Lib.hid hyx; have hYl' := Lib.hid hYl; clear hyx hYl
          rcases hs3 with h3 | h3 | h3
          · have e1 : (x.toList == [123]) = true := by rw [h3]; rfl
            have h3' := Lib.hid h3; clear h3
            go_wp2
            go_ret
            exact ⟨rfl, hk2.out⟩
          · have e1 : (x.toList == [123]) = false := by rw [h3]; rfl
            have e2 : (x.toList == [125]) = true := by rw [h3]; rfl
            have h3' := Lib.hid h3; clear h3
            go_wp2
            go_ret
            exact ⟨rfl, hk2.out⟩
          · have e1 : (x.toList == [123]) = false := by rw [h3]; rfl
            have e2 : (x.toList == [125]) = false := by rw [h3]; rfl
            have e3 : (x.toList == [59]) = true := by rw [h3]; rfl
            have h3' := Lib.hid h3; clear h3
            go_wp2
            go_ret
            exact ⟨rfl, hk2.out⟩
        · have hE : (Y.toList == x.toList) = false := by rw [hYl, Lib.toList_data]; simpa using hyx
          have hYl' := Lib.hid hYl; clear hyx hYl
          go_wp2
          go_ret
          exact ⟨rfl, hk2.out⟩
      · have hE : ((l.length : Int) == 1) = false := by rw [beq_eq_false_iff_ne]; omega
        have hE2 : (l.length == 1) = false := by simpa using hl1
        clear hl1
        go_wp2
        go_ret
        exact ⟨rfl, hk2.out⟩
    · go_wp2
      go_ret
      exact ⟨rfl, hk2.out⟩
end Go.Proofs.YtdannodhlaaoiaaGreatDoor
