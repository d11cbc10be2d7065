/- The document's Parts, walked. -/
import Derived.Test.YtialookpnoaogaaGreatAA04
import Derived.StillTailTactics
import Derived.Test.YtialookpnoaogaaGreatAA03
import Derived.Laws.ResultCell
import Derived.Laws.Closers25b
set_option linter.unusedVariables false
set_option linter.unusedSimpArgs false
namespace Go.Proofs.YtialookpnoaogaaGreat
open Go.RowKit

theorem OwnStrs.one (w : World) (x : List UInt8) : OwnStrs w (w.alloc (.cells #[strv x] 9)) (.slice (some ⟨w.heap.size, 0, none⟩) 1 1) [x] :=
  ⟨⟨rfl, .inr ⟨w.heap.size, 1, #[strv x], rfl, Nat.zero_le _, heap_alloc_last w _, Nat.le_refl _, by unfold maxLen; omega, rfl, rfl⟩⟩, fun k e => by
    have e : some w.heap.size = some k := e
    injection e with e; omega⟩
theorem OwnStrs.last {w0 w : World} {v : Value} {ps : List (List UInt8)} {p : List UInt8} (h : OwnStrs w0 w v (ps ++ [p])) :
    ∃ g c, v = .slice (some ⟨g, 0, none⟩) (ps.length + 1) c ∧ w0.heap.size ≤ g ∧ w.cell? ⟨g, ps.length, none⟩ = some (strv p) ∧ w.frozen? ⟨g, ps.length, none⟩ = false ∧
      ∀ (q : List UInt8) (w' : World), (∀ k, k < w.heap.size → w'.heap[k]? = w.heap[k]?) → OwnStrs w0 (w'.setCell ⟨g, ps.length, none⟩ (strv q)) v (ps ++ [q]) := by
  rcases h.1.2 with ⟨_, h2⟩ | ⟨g, cap, cur, rfl, hb, hgg, hnc, hcm, hcs, htake⟩
  · simp at h2
  · have hl : (ps ++ [p]).length = ps.length + 1 := by simp
    rw [hl] at hnc htake h
    refine ⟨g, cap, by rw [hl], h.2 g rfl, ?_, ?_, ?_⟩
    · have := h.1.cells (g := g) (by simp [Value.ownBlock]) ps.length (strv p) (by simp)
      rw [Addr.add_mid] at this
      simpa using this
    · simp [World.frozen?, hgg]
    · intro q w' hw'
      refine ⟨⟨by simp, .inr ⟨g, cap, cur.setIfInBounds ps.length (strv q), by simp, hb, ?_, by simpa using hnc, hcm, by simp [hcs], ?_⟩⟩, h.2⟩
      · have hlt := lt_of_block hgg
        have hg' := (hw' g hlt).trans hgg
        simp [World.setCell, Array.getElem?_modify, hg']
      · have e : ((ps ++ [p]).map strv).set ps.length (strv q) = (ps ++ [q]).map strv := by
          rw [List.map_append, List.map_append, List.set_append_right _ _ (by simp)]
          simp
        rw [← e, ← htake]
        simp [List.take_set]

def PartsPost (t : List UInt8) (c : UInt8) (w0 : World) (e : Ending) (w' : World) : Prop :=
  ∃ p d, e = .returned (.slice p (partsL c t).length d) ∧ OwnStrs w0 w' (.slice p (partsL c t).length d) (partsL c t) ∧ Keeps (fun _ => False) w0 w'
theorem PartsPost.mk {t : List UInt8} {c : UInt8} {w0 w' : World} {v : Value} (h : OwnStrs w0 w' v (partsL c t)) (k : Keeps (fun _ => False) w0 w') : PartsPost t c w0 (.returned v) w' := by
  obtain ⟨p, d, rfl⟩ := h.slice
  exact ⟨p, d, rfl, h, k⟩
theorem partsL_len (c : UInt8) (l : List UInt8) : (partsL c l).length ≤ l.length + 1 := by
  induction l with
  | nil => simp [partsL]
  | cons b l ih =>
    unfold partsL
    split
    · simp; omega
    · cases hp : partsL c l with
      | nil => simp
      | cons p ps => rw [hp] at ih; simp at ih ⊢; omega
theorem partsL_each (c : UInt8) (l : List UInt8) : ∀ p ∈ partsL c l, p.length ≤ l.length := by
  induction l with
  | nil => simp [partsL]
  | cons b l ih =>
    unfold partsL
    split
    · intro p hp
      rcases List.mem_cons.1 hp with rfl | hp
      · simp
      · have := ih p hp; simp; omega
    · cases hp : partsL c l with
      | nil => simp
      | cons q ps =>
        rw [hp] at ih
        intro p hpm
        rcases List.mem_cons.1 hpm with rfl | hpm
        · have := ih q (by simp); simp; omega
        · have := ih p (by simp [hpm]); simp; omega

set_option maxRecDepth 100000 in
set_option maxHeartbeats 1000000 in
theorem parts_any (s : ByteArray) (c : UInt8) (w : World) (hs : s.size ≤ 8796093022000) :
    Calls Tryz.prog 73 #[.string s, .int .u8 (c.toNat : Nat)] w (PartsPost s.data.toList c w) := by
  obtain ⟨i0, hi, hz0, hz1, hz2⟩ := info_parts strInfoAll
  go_enter Tryz.func73, Tryz.ntmps73
  go_wp2
  go_loopw [5, 6] (fun v i wr => ∃ (k : Nat), k ≤ s.size ∧ i = .int .i64 k ∧ Hid (OwnStrs w wr v (partsL c (s.data.toList.take k))) ∧ Hid (Keeps (fun _ => False) w wr)) (fun _ i _ => s.size - (intOf i).toNat)
  case atStart => exact ⟨0, by omega, rfl, Lib.hid (OwnStrs.one w []), Lib.hid ((Keeps.refl _ _).alloc _)⟩
  case round =>
    obtain ⟨k, hk, rfl, hown, hkeep⟩ := hrel
    by_cases hlt : k < s.size
    · have hl : k < s.data.toList.length := by simpa using hlt
      have hgk : s.data.toList[k] = s[k] := by rw [Array.getElem_toList]; rfl
      have hts : s.data.toList.take (k + 1) = s.data.toList.take k ++ [s[k]] := by rw [List.take_succ_eq_append_getElem hl, hgk]
      have hsn := partsL_snoc c s[k] (s.data.toList.take k)
      rw [← hts] at hsn
      have hpl := partsL_len c (s.data.toList.take k)
      have hpe := partsL_each c (s.data.toList.take k)
      obtain ⟨ps, hps⟩ : ∃ ps, ps = partsL c (s.data.toList.take k) := ⟨_, rfl⟩
      rw [← hps] at hown hsn hpl hpe
      have hpl' : ps.length ≤ k + 1 := by simp at hpl; omega
      have hne : ps ≠ [] := by rw [hps]; exact partsL_ne _ _
      clear hps hts hgk hpl
      by_cases hc : s[k] = c
      · rw [if_pos hc] at hsn
        have d1 : (s[k].toNat == c.toNat) = true := by rw [hc]; simp
        have d2 : ((s[k].toNat : Int) == (c.toNat : Int)) = true := by rw [hc]; simp
        have hsn' := Lib.hid hsn; clear hsn hc hne hpe
        go_wp2_with ((with_reducible refine at_slot 21 ?_); refine wpList_append_sep rfl (.tmp 19) (.tmp 20) 57 rfl 9 i0 (.string ⟨#[]⟩) 1 16 Tryz.underlying57 hi hz0 hz1 hz2 rfl (by decide) _ ps.length (ps.map strv) rfl (hown.out.1.alloc _) ⟨wr.heap.size, 0, none⟩ 1 1 [strv []] rfl rfl (cells_one rfl _ _) (by simp [Value.oneCell', strv]) (by unfold maxLen; omega) (by omega) ?_; intro q d w1 ho1 hg1 hs1; have ho := Lib.hid ho1; clear ho1; have hg := Lib.hid hg1; clear hg1)
        have hR := OwnStrs.push hown.out [] (hkeep.out.alloc _) hg.out ho.out hs1.out
        go_roundw
        case rel => exact ⟨k + 1, by omega, by go_num, by rw [hsn'.out]; exact Lib.hid hR.1, Lib.hid hR.2⟩
        case measure => simp [intOf]; omega
      · rw [if_neg hc] at hsn
        have d1 : (s[k].toNat == c.toNat) = false := by rw [beq_eq_false_iff_ne]; exact fun h => hc (UInt8.toNat_inj.mp h)
        have d2 : ((s[k].toNat : Int) == (c.toNat : Int)) = false := by rw [beq_eq_false_iff_ne]; exact fun h => hc (UInt8.toNat_inj.mp (by omega))
        obtain ⟨qs, q, rfl⟩ : ∃ qs q, ps = qs ++ [q] := ⟨ps.dropLast, ps.getLast hne, (List.dropLast_concat_getLast hne).symm⟩
        rw [pushLast_snoc] at hsn
        obtain ⟨g, cp, rfl, hgb, hcell, hfro, hset⟩ := hown.out.last
        have hql := hpe q (by simp)
        obtain ⟨X, hX⟩ : ∃ X : ByteArray, X = ⟨q.toArray⟩ := ⟨_, rfl⟩
        have hXs : X.size ≤ s.size := by rw [hX]; simp at hql; show q.toArray.size ≤ _; simp; omega
        have hcell' : wr.cell? ⟨g, qs.length, none⟩ = some (.string X) := by rw [hcell, hX]; rfl
        have hnew : Hid (strv (q ++ [s[k]]) = .string (X ++ s.extract k (k + 1))) := Lib.hid (by
          unfold strv
          have e := Lib.extract_eq s k (k + 1)
          rw [drop_at s k hlt, show k + 1 - k = 1 by omega] at e
          rw [e, hX]
          congr 1)
        have hqs : qs.length ≤ k := by simp at hpl'; omega
        have hset' := Lib.hid hset; clear hset
        have hsn' := Lib.hid hsn; have hX' := Lib.hid hX; clear hsn hX hc hne hpe hcell hql hpl'
        go_wp2_with fail
        have l1 : IntKind.i64.wrap (qs.length : Int) = (qs.length : Int) := IntWalk.i64_in _ (by omega)
        have l2 : IntKind.i64.wrap ((k : Int) + 1) = (k : Int) + 1 := IntWalk.i64_in _ (by omega)
        have l3 : (0 : Int) ≤ (qs.length : Int) := by omega
        have l4 : (qs.length : Int) < (qs.length : Int) + 1 := by omega
        have l5 : (0 : Int) ≤ (k : Int) + 1 := by omega
        have l6 : ((k : Int) + 1).toNat = k + 1 := by omega
        have l7 : (k : Int) ≤ (k : Int) + 1 := by omega
        have l8 : (k : Int) + 1 ≤ s.size := by omega
        have l9 : ¬ (9223372036854775807 < X.size + (min (k + 1) s.size - k)) := by omega
        have l10 : ∀ W : World, (Op.stringOp .add X (s.extract k (k + 1))).run Tryz.prog W = .ok (.string (X ++ s.extract k (k + 1))) W := fun W => run_string_add_sum W _ _ (by rw [ByteArray.size_extract]; omega)
        go_still_tail 17, (by kernel_rfl)
        change wpList _ _ _ _ _ wr.drew
        clear l1 l2 l3 l4 l5 l6 l7 l8 l9 l10
        go_wp2_with fail
        have hR := hset'.out (q ++ [s[k]]) wr (fun _ _ => rfl)
        rw [hnew.out, ← hsn'.out] at hR
        exact ⟨⟨k + 1, by omega, by go_num, Lib.hid ⟨hR.1, hR.2⟩, Lib.hid ((hkeep.out.setCell (p := ⟨g, qs.length, none⟩) (.inr hgb) _).drew)⟩, by simp [intOf]; omega⟩
    · obtain rfl : k = s.size := by omega
      have ht : s.data.toList.take s.size = s.data.toList := List.take_of_length_le (by simp)
      rw [ht] at hown
      clear ht
      go_wp2
      go_ret
      exact PartsPost.mk hown.out hkeep.out
end Go.Proofs.YtialookpnoaogaaGreat
/- The document's Addr and Net, walked. -/
namespace Go.Proofs.YtialookpnoaogaaGreat
open Go.RowKit

/-- new memory beside nothing else -/
def NewRes (v : Value) (w0 : World) (e : Ending) (w' : World) : Prop := e = .returned v ∧ Keeps (fun _ => False) w0 w'
theorem ba_eta (p : List UInt8) : (⟨p.toArray⟩ : ByteArray).data.toList = p := rfl
set_option maxRecDepth 100000 in
set_option maxHeartbeats 1000000 in
theorem rAddr_r (s : ByteArray) (r : Option Nat) (w : World) (hs : s.size ≤ 8796093022000) (hr : Hid (addrL s.data.toList = r)) :
    Calls Tryz.prog 38 #[.string s] w (NewRes (addrRes r) w) := by
  have hq := hr.out
  rw [addrL_eq] at hq
  obtain ⟨ps, hps⟩ : ∃ ps, ps = partsL 46 s.data.toList := ⟨_, rfl⟩
  rw [← hps] at hq
  have hpl := partsL_len 46 s.data.toList
  have hpe := partsL_each 46 s.data.toList
  rw [← hps] at hpl hpe
  have hps' := Lib.hid hps; have hq' := Lib.hid hq; have hpe' := Lib.hid hpe; clear hps hq hpe hr
  have hpl' : ps.length ≤ 8796093022001 := by simp at hpl; omega
  clear hpl
  go_enter Tryz.func38, Tryz.ntmps38
  go_wp2_with fail
  refine (parts_any s 46 _ hs).mono ?_
  rintro e w1 ⟨p, d, rfl, hown, hk⟩
  rw [← hps'.out] at *
  have hown1 := Lib.hid hown; have hk1 := Lib.hid hk
  have hat := hown.at
  clear hown hk
  by_cases h4 : ps.length = 4
  · have hq4 := hq'.out
    rw [if_pos h4] at hq4
    have hq4' := Lib.hid hq4; clear hq4
    obtain ⟨p', c', hpe2, hr0⟩ := hat
    obtain ⟨g, o, rfl, hr1⟩ := hr0 (by omega)
    have e1 : p = some ⟨g, o, none⟩ := by injection hpe2
    subst e1
    have hr1' := Lib.hid hr1; have h4' := Lib.hid h4
    rw [h4]
    clear hpe2 hr0 hr1 h4
    go_wp2_with fail
    go_loop [5, 6] (fun nv iv => ∃ (k n : Nat), k ≤ 4 ∧ iv = .int .i64 k ∧ nv = .int .u32 (n : Nat) ∧ Hid (n < 256 ^ k) ∧ Hid (foldParts n (ps.drop k) = r)) (fun _ iv => 4 - (intOf iv).toNat)
    case atStart => exact ⟨0, 0, by omega, rfl, rfl, Lib.hid (by simp), Lib.hid (by rw [List.drop_zero]; exact hq4'.out)⟩
    case round =>
      obtain ⟨k, n, hk, rfl, rfl, hn, hf⟩ := hrel
      by_cases hk4 : k < 4
      · have hkl : k < ps.length := by have := h4'.out; omega
        have hfd := hf.out
        rw [List.drop_eq_getElem_cons hkl] at hfd
        unfold foldParts at hfd
        have hn4 : n < 16777216 := by
          have h1 := hn.out
          have : 256 ^ k ≤ 256 ^ 3 := Nat.pow_le_pow_right (by omega) (by omega)
          omega
        obtain ⟨X, hX⟩ : ∃ X : ByteArray, X = ⟨(ps[k]).toArray⟩ := ⟨_, rfl⟩
        have c1 : w1.cell? ⟨g, o + k, none⟩ = some (.string X) := by rw [hX]; exact hr1'.out k _ (by simp [hkl, strv])
        have hXl : X.data.toList = ps[k] := by rw [hX]
        rw [← hXl] at hfd
        clear hX hXl
        cases hd : decL X.data.toList with
        | none =>
          rw [hd] at hfd
          have hr2 : Hid (r = none) := Lib.hid hfd.symm
          have hd' := Lib.hid hd; clear hd hfd hf
          go_wp2_with (go_at_call 69; refine (rDec_none X _ hd').mono ?_; rintro e w' ⟨rfl, rfl⟩)
          go_ret2
          exact ⟨by rw [hr2.out]; rfl, hk1.out⟩
        | some b =>
          rw [hd] at hfd
          simp only at hfd
          have hb9 := decL_lt hd
          have hd' := Lib.hid hd; clear hd hf
          by_cases hb : b ≤ 255
          · rw [if_pos hb] at hfd
            have hf' := Lib.hid hfd; clear hfd
            have hn' : Hid (n * 256 + b < 256 ^ (k + 1)) := Lib.hid (by have := hn.out; rw [Nat.pow_succ]; omega)
            go_wp2_with (go_at_call 69; refine (rDec_some X b _ hd').mono ?_; rintro e w' ⟨rfl, rfl⟩)
            go_round
            case rel => exact ⟨k + 1, n * 256 + b, by omega, by go_num, by congr 1, hn', hf'⟩
            case measure => simp [intOf]; omega
          · rw [if_neg hb] at hfd
            have hr2 : Hid (r = none) := Lib.hid hfd.symm
            clear hfd
            go_wp2_with (go_at_call 69; refine (rDec_some X b _ hd').mono ?_; rintro e w' ⟨rfl, rfl⟩)
            go_ret2
            exact ⟨by rw [hr2.out]; rfl, hk1.out⟩
      · obtain rfl : k = 4 := by omega
        have hr2 : Hid (r = some n) := Lib.hid (by
          have := hf.out
          rw [List.drop_of_length_le (by have := h4'.out; omega)] at this
          exact this.symm)
        clear hf
        go_wp2
        go_ret2
        exact ⟨by rw [hr2.out]; rfl, hk1.out⟩
  · have hq4 := hq'.out
    rw [if_neg h4] at hq4
    have hr2 : Hid (r = none) := Lib.hid hq4.symm
    have d1 : ((ps.length : Int) != 4) = true := by rw [bne_iff_ne]; omega
    have d2 : (ps.length != 4) = true := by simpa using h4
    clear hq4 h4 hat
    go_wp2
    go_ret2
    exact ⟨by rw [hr2.out]; rfl, hk1.out⟩
theorem rAddr_none (s : ByteArray) (w : World) (hs : s.size ≤ 8796093022000) (h : Hid (addrL s.data.toList = none)) :
    Calls Tryz.prog 38 #[.string s] w (NewRes (.tuple #[.int .u32 0, .bool false]) w) := rAddr_r s none w hs h
theorem rAddr_some (s : ByteArray) (n : Nat) (w : World) (hs : s.size ≤ 8796093022000) (h : Hid (addrL s.data.toList = some n)) :
    Calls Tryz.prog 38 #[.string s] w (NewRes (.tuple #[.int .u32 (n : Nat), .bool true]) w) := rAddr_r s (some n) w hs h
end Go.Proofs.YtialookpnoaogaaGreat
/- Of adv: net, own. -/
set_option linter.unusedVariables false
set_option linter.unusedSimpArgs false
namespace Go.Proofs.YtialookpnoaogaaGreat
open Go.RowKit

theorem ret_cellN {P : Program} {fn : Func} {p : Tmp} {ty : TypeId} (h : fn.results = #[.cell p ty]) (tmps : Array Value) (w : World) (b : Nat) (cs : List Value) (d : TypeDesc) (hp : tmps.getD p undef = .pointer (some ⟨b, 0, none⟩))
    (hc : w.rangeAt b 0 cs) (hu : P.underlying ty = some d) (hd : d.isRow = true) (hi : (P.info? ty).map (·.size) = some cs.length) : (results fn tmps).run P w = .ok (.agg cs.toArray) w := by
  have hl := run_loadVar_mid w b 0 ty cs d hc hu hd hi
  have e : (results fn tmps).run P w = ((asAddr (tmps.getD p undef)).run P w).andThen fun a w₁ => (loadVar ty a).run P w₁ := by
    simp only [results, h]
    simp [Sem.run_bind, Result.andThen]
  rw [e, hp]
  simp only [asAddr, Sem.run_pure, Result.andThen, hl]
/-- an interface as it is set and as it stands -/
def standVals (s : SetD) (nm : List UInt8) (dr : Nat) (fv : Value) : List Value := setVals s ++ [strv nm, .int .u32 dr, fv]
theorem standVals_len (s : SetD) (nm : List UInt8) (dr : Nat) (fv : Value) : (standVals s nm dr fv).length = 13 := rfl
def netL15 (s : SetD) : LinkD := ⟨(bits .and .u32 s.addr s.mask).toNat, s.mask, 3, s.cost⟩
set_option maxRecDepth 100000 in
set_option maxHeartbeats 8000000 in
theorem standNet_any (s : SetD) (nm : List UInt8) (dr : Nat) (fv : Value) (w : World) :
    Calls Tryz.prog 91 #[.agg (standVals s nm dr fv).toArray] w (NewRes (.agg (linkVals (netL15 s)).toArray) w) := by
  obtain ⟨area, addr, mask, cost, hello, dead, again, prio, two, auth⟩ := s
  obtain ⟨L, hL⟩ : ∃ L, standVals ⟨area, addr, mask, cost, hello, dead, again, prio, two, auth⟩ nm dr fv = L := ⟨_, rfl⟩
  have hbx := (boxed_new w L 67).next ((Keeps.refl _ _).alloc (.cells #[.int .u32 0, .int .u32 0, .int .i64 0, .int .i64 0] 142))
  rw [hL]
  have h1 := hbx.cell 1 (.int .u32 addr) (by rw [← hL]; rfl)
  have h2 := hbx.cell 2 (.int .u32 mask) (by rw [← hL]; rfl)
  have h3 := hbx.cell 3 (.int .i64 cost) (by rw [← hL]; rfl)
  have hk0 := Lib.hid hbx.k
  have hB0 := Lib.hid (BlkAt.new (w.alloc (.cells L.toArray 67)) 142 [.int .u32 0, .int .u32 0, .int .i64 0, .int .i64 0])
  have hth := hB0.out.there 0 4 (Nat.le_refl _)
  rw [show (w.alloc (.cells L.toArray 67)).heap.size = w.heap.size + 1 by simp] at hth
  replace hth := Lib.hid hth
  clear hB0
  clear hL hbx
  go_enter Tryz.func91, Tryz.ntmps91
  go_upto_region 1 with fail
  generalize hW0 : (w.alloc (Obj.cells L.toArray 67)).alloc (Obj.cells #[Value.int IntKind.u32 0, Value.int IntKind.u32 0, Value.int IntKind.i64 0, Value.int IntKind.i64 0] 142) = W0 at h1 h2 h3 hk0 hth ⊢
  clear hW0
  go_wp2_with ((with_reducible refine at_store 2 ?_); refine wpList_store_blk rfl 142 (.tmp 2) (.tmp 16) rfl (w.heap.size + 1) _ rfl rfl hth.out linkInfo (by simp; exact ⟨rfl, rfl, rfl, rfl⟩) ?_; intro w2 hr2 hk2)
  have e1 : (((bits .and .u32 addr mask).toNat : Nat) : Int) = bits .and .u32 addr mask := Int.toNat_of_nonneg (bits_lo_u32 _ _ _)
  refine bodyPost_ret (ret_cellN rfl _ w2 (w.heap.size + 1) _ _ rfl hr2.out Tryz.underlying142 rfl linkInfo) rfl ⟨?_, hk0.out.trans' hk2.out (fun i e => .inr (by rw [e]; omega))⟩
  unfold netL15 linkVals
  simp only [e1]
/-- do we speak for the interface's network? -/
def speaksB (s : SetD) (dr n : Nat) : Bool := !s.two && (decide (dr ≠ 0) && (decide (dr = s.addr) && decide (0 < n)))
set_option maxRecDepth 100000 in
set_option maxHeartbeats 8000000 in
theorem standSpeaks_any (s : SetD) (nm : List UInt8) (dr n c : Nat) (p : Option Addr) (z : Bool) (w : World) (hz : Hid (speaksB s dr n = z)) :
    Calls Tryz.prog 59 #[.agg (standVals s nm dr (.slice p n c)).toArray] w (NewRes (.bool z) w) := by
  obtain ⟨area, addr, mask, cost, hello, dead, again, prio, two, auth⟩ := s
  obtain ⟨L, hL⟩ : ∃ L, standVals ⟨area, addr, mask, cost, hello, dead, again, prio, two, auth⟩ nm dr (.slice p n c) = L := ⟨_, rfl⟩
  have hbx := boxed_new w L 67
  rw [hL]
  have h1 := hbx.cell 8 (.bool two) (by rw [← hL]; rfl)
  have h2 := hbx.cell 11 (.int .u32 dr) (by rw [← hL]; rfl)
  have h3 := hbx.cell 1 (.int .u32 addr) (by rw [← hL]; rfl)
  have h4 := hbx.cell 12 (.slice p n c) (by rw [← hL]; rfl)
  have hk0 := Lib.hid hbx.k
  clear hL hbx
  have hzz := hz.out
  unfold speaksB at hzz
  simp only at hzz
  clear hz
  go_enter Tryz.func59, Tryz.ntmps59
  go_upto_region 1 with fail
  generalize hW0 : w.alloc (Obj.cells L.toArray 67) = W0 at h1 h2 h3 h4 hk0 ⊢
  clear hW0
  cases two with
  | true =>
    have hzf : z = false := by rw [← hzz]; rfl
    subst hzf
    clear hzz
    go_wp2_with fail
    go_ret
    exact ⟨rfl, hk0.out⟩
  | false =>
    by_cases d0 : dr = 0
    · have hzf : z = false := by rw [← hzz, d0]; rfl
      subst hzf; subst d0
      clear hzz
      go_wp2_with fail
      go_ret
      exact ⟨rfl, hk0.out⟩
    · have q0 : ((dr : Int) != 0) = true := by simp; omega
      by_cases d1 : dr = addr
      · by_cases d2 : 0 < n
        · have hzf : z = true := by rw [← hzz]; simp [d0, ← d1, d2]
          subst hzf; subst d1
          have q2 : (0 : Int) < (n : Int) := by omega
          clear hzz d0
          go_wp2_with fail
          go_ret
          exact ⟨rfl, hk0.out⟩
        · have hzf : z = false := by rw [← hzz]; simp [d2]
          obtain rfl : n = 0 := by omega
          subst hzf; subst d1
          clear hzz d0 d2
          go_wp2_with fail
          go_ret
          exact ⟨rfl, hk0.out⟩
      · have hzf : z = false := by rw [← hzz]; simp [d1]
        have q1 : ((dr : Int) == (addr : Int)) = false := by simp; omega
        subst hzf
        clear hzz d0 d1
        go_wp2_with fail
        go_ret
        exact ⟨rfl, hk0.out⟩
end Go.Proofs.YtialookpnoaogaaGreat
/- Of adv: own. -/
set_option linter.unusedVariables false
set_option linter.unusedSimpArgs false
namespace Go.Proofs.YtialookpnoaogaaGreat
open Go.RowKit

theorem ownInfo : (Tryz.prog.info? 77).map (·.size) = some 10 := by kernel_rfl
theorem lsaInfo15 : (Tryz.prog.info? 75).map (·.size) = some 9 := by kernel_rfl
set_option maxRecDepth 100000 in
set_option maxHeartbeats 8000000 in
theorem advOwn_any (area me : Nat) (age type seq cost : Int) (id adv mask n5 c5 n7 c7 : Nat) (p5 p7 : Option Addr) (w : World) :
    Calls Tryz.prog 58 #[.int .u32 area, .int .u32 me, .agg #[.int .i64 age, .int .i64 type, .int .u32 id, .int .u32 adv, .int .i64 seq, .slice p5 n5 c5, .int .u32 mask, .slice p7 n7 c7, .int .i64 cost]] w
      (NewRes (.agg #[.int .u32 area, .int .i64 age, .int .i64 type, .int .u32 id, .int .u32 me, .int .i64 (-2147483647), .slice p5 n5 c5, .int .u32 mask, .slice p7 n7 c7, .int .i64 cost]) w) := by
  go_enter Tryz.func58, Tryz.ntmps58
  go_upto_region 1 with fail
  generalize hW0 : (w.alloc (Obj.cells #[.int .i64 age, .int .i64 type, .int .u32 id, .int .u32 adv, .int .i64 seq, .slice p5 n5 c5, .int .u32 mask, .slice p7 n7 c7, .int .i64 cost] 75)).alloc (Obj.cells #[.int .u32 0, .int .i64 0, .int .i64 0, .int .u32 0, .int .u32 0, .int .i64 0, .slice none 0 0, .int .u32 0, .slice none 0 0, .int .i64 0] 77) = W0
  have hk0 : Hid (Keeps (fun _ => False) w W0) := Lib.hid (by rw [← hW0]; exact ((Keeps.refl _ _).alloc _).alloc _)
  have hB0 : Hid (BlkAt W0 w.heap.size 75 [.int .i64 age, .int .i64 type, .int .u32 id, .int .u32 adv, .int .i64 seq, .slice p5 n5 c5, .int .u32 mask, .slice p7 n7 c7, .int .i64 cost]) := Lib.hid (by
    rw [← hW0]
    exact (BlkAt.new w _ _).alloc _)
  have hB1 : Hid (BlkAt W0 (w.heap.size + 1) 77 [.int .u32 0, .int .i64 0, .int .i64 0, .int .u32 0, .int .u32 0, .int .i64 0, .slice none 0 0, .int .u32 0, .slice none 0 0, .int .i64 0]) := Lib.hid (by
    rw [← hW0]
    have h := BlkAt.new (w.alloc (Obj.cells #[.int .i64 age, .int .i64 type, .int .u32 id, .int .u32 adv, .int .i64 seq, .slice p5 n5 c5, .int .u32 mask, .slice p7 n7 c7, .int .i64 cost] 75)) 77 [.int .u32 0, .int .i64 0, .int .i64 0, .int .u32 0, .int .u32 0, .int .i64 0, .slice none 0 0, .int .u32 0, .slice none 0 0, .int .i64 0]
    simpa using h)
  clear hW0
  obtain ⟨b, hb⟩ : ∃ b, w.heap.size = b := ⟨_, rfl⟩
  rw [hb] at hB0 hB1 ⊢
  have hb' := Lib.hid hb
  clear hb
  have s1 := hB0.out.cell 3 (.int .u32 adv) rfl
  have s2 := hB0.out.frozen 3
  have hB2 := hB0.out.set 3 (.int .u32 me)
  have s3 := hB2.cell 4 (.int .i64 seq) rfl
  have s4 := hB2.frozen 4
  have hB3 := Lib.hid (hB2.set 4 (.int .i64 (-2147483647)))
  have hk3 : Hid (Keeps (fun _ => False) w ((W0.setCell ⟨b, 3, none⟩ (.int .u32 me)).setCell ⟨b, 4, none⟩ (.int .i64 (-2147483647)))) := Lib.hid (by
    have h : Keeps (fun i => i = b) W0 ((W0.setCell ⟨b, 3, none⟩ (.int .u32 me)).setCell ⟨b, 4, none⟩ (.int .i64 (-2147483647))) := ((Keeps.refl (fun i => i = b) W0).setCell (p := ⟨b, 3, none⟩) (.inl rfl) (.int .u32 me)).setCell (p := ⟨b, 4, none⟩) (.inl rfl) (.int .i64 (-2147483647))
    exact hk0.out.trans' h (fun i e => .inr (by rw [e, hb'.out]; exact Nat.le_refl _)))
  have hB4 := Lib.hid (hB1.out.keep (((Keeps.refl (fun i => i = b) W0).setCell (p := ⟨b, 3, none⟩) (.inl rfl) (.int .u32 me)).setCell (p := ⟨b, 4, none⟩) (.inl rfl) (.int .i64 (-2147483647))) (by omega))
  clear hB2
  go_upto_region 2 with fail
  generalize (W0.setCell ⟨b, 3, none⟩ (.int .u32 me)).setCell ⟨b, 4, none⟩ (.int .i64 (-2147483647)) = W1 at hB3 hk3 hB4 ⊢
  have hrg := hB3.out.range
  have hth := Lib.hid (hB4.out.there 0 10 (Nat.le_refl _))
  clear hB1 hB0 hk0 s1 s2 s3 s4
  go_wp2_with (first | ((with_reducible refine at_slot 12 ?_); refine wpList_load_mid rfl 75 (.tmp 5) rfl b 0 rfl [.int .i64 age, .int .i64 type, .int .u32 id, .int .u32 me, .int .i64 (-2147483647), .slice p5 n5 c5, .int .u32 mask, .slice p7 n7 c7, .int .i64 cost] _ hrg Tryz.underlying75 rfl lsaInfo15 ?_) | ((with_reducible refine at_store 6 ?_); refine wpList_store_blk rfl 77 (.tmp 6) (.tmp 13) rfl (b + 1) _ rfl rfl hth.out ownInfo (by simp; exact ⟨rfl, rfl, rfl, rfl, rfl, rfl, rfl, rfl, rfl, rfl⟩) ?_; intro w2 hr2 hk2))
  refine bodyPost_ret (ret_cellN rfl _ w2 (b + 1) _ _ rfl hr2.out Tryz.underlying77 rfl ownInfo) rfl ⟨rfl, hk3.out.trans' hk2.out (fun i e => .inr (by rw [e, hb'.out]; omega))⟩
end Go.Proofs.YtialookpnoaogaaGreat
/- Of adv: slices.SortFunc of one Lsa of ours. -/
set_option linter.unusedVariables false
set_option linter.unusedSimpArgs false
namespace Go.Proofs.YtialookpnoaogaaGreat
open Go.RowKit

set_option maxRecDepth 100000 in
set_option maxHeartbeats 8000000 in
theorem bitsLen64_one (w : World) : Calls Tryz.prog 103 #[.int .u64 1] w fun e w' => e = .returned (.int .i64 1) ∧ w = w' := by
  go_enter Tryz.func103, Tryz.ntmps103
  go_wp2_with fail
  go_ret
  refine ⟨?_, rfl⟩
  kernel_rfl
set_option maxRecDepth 100000 in
set_option maxHeartbeats 8000000 in
theorem bitsLen_one (w : World) : Calls Tryz.prog 63 #[.int .u64 1] w fun e w' => e = .returned (.int .i64 1) ∧ w = w' := by
  go_enter Tryz.func63, Tryz.ntmps63
  go_wp2_with fail
  refine (bitsLen64_one _).mono ?_
  rintro e w1 ⟨rfl, rfl⟩
  go_wp2_with fail
  go_ret
  exact ⟨rfl, rfl⟩
set_option maxRecDepth 100000 in
set_option maxHeartbeats 8000000 in
theorem insOwn_one (p : Option Addr) (c : Nat) (f : Value) (w : World) : Calls Tryz.prog 94 #[.slice p 1 c, .int .i64 0, .int .i64 1, f] w fun e w' => e = .returned (.tuple #[]) ∧ w = w' := by
  go_enter Tryz.func94, Tryz.ntmps94
  go_wp2_with fail
  go_loopw [8] (fun a wr => a = .int .i64 1 ∧ w = wr) (fun _ _ => 0)
  case atStart => exact ⟨rfl, rfl⟩
  obtain ⟨rfl, rfl⟩ := hrel
  go_wp2_with fail
  go_end0
  exact ⟨rfl, rfl⟩
set_option maxRecDepth 100000 in
set_option maxHeartbeats 8000000 in
theorem pdqOwn_one (p : Option Addr) (c : Nat) (m : Int) (f : Value) (w : World) : Calls Tryz.prog 62 #[.slice p 1 c, .int .i64 0, .int .i64 1, .int .i64 m, f] w fun e w' => e = .returned (.tuple #[]) ∧ w = w' := by
  go_enter Tryz.func62, Tryz.ntmps62
  go_wp2_with fail
  go_loopw [1, 2] (fun a b wr => a = .int .i64 0 ∧ b = .int .i64 1 ∧ w = wr) (fun _ _ _ => 0)
  case atStart => exact ⟨rfl, rfl, rfl⟩
  obtain ⟨rfl, rfl, rfl⟩ := hrel
  go_wp2_with fail
  refine (insOwn_one _ _ _ _).mono ?_
  rintro e w1 ⟨rfl, rfl⟩
  go_wp2_with fail
  refine bodyPost_ret (results_none rfl _ _ _) rfl ⟨rfl, rfl⟩
set_option maxRecDepth 100000 in
set_option maxHeartbeats 8000000 in
theorem sortOwn_one (p : Option Addr) (c : Nat) (f : Value) (w : World) : Calls Tryz.prog 25 #[.slice p 1 c, f] w fun e w' => e = .returned (.tuple #[]) ∧ w = w' := by
  go_enter Tryz.func25, Tryz.ntmps25
  go_wp2_with fail
  refine (bitsLen_one _).mono ?_
  rintro e w1 ⟨rfl, rfl⟩
  go_wp2_with fail
  refine (pdqOwn_one _ _ _ _ _).mono ?_
  rintro e w1 ⟨rfl, rfl⟩
  go_wp2_with fail
  go_end0
  exact ⟨rfl, rfl⟩
end Go.Proofs.YtialookpnoaogaaGreat
/- Of adv: hears, links where nobody speaks. -/
set_option linter.unusedVariables false
set_option linter.unusedSimpArgs false
namespace Go.Proofs.YtialookpnoaogaaGreat
open Go.RowKit

theorem standInfo : (Tryz.prog.info? 67).map (·.size) = some 13 := by kernel_rfl
set_option maxRecDepth 100000 in
set_option maxHeartbeats 8000000 in
theorem standHears_zero (s : SetD) (nm : List UInt8) (n c : Nat) (p : Option Addr) (w : World) (hz : s.two = false) :
    Calls Tryz.prog 92 #[.agg (standVals s nm 0 (.slice p n c)).toArray] w (NewRes (.bool false) w) := by
  obtain ⟨area, addr, mask, cost, hello, dead, again, prio, two, auth⟩ := s
  obtain rfl : two = false := hz
  obtain ⟨L, hL⟩ : ∃ L, standVals ⟨area, addr, mask, cost, hello, dead, again, prio, false, auth⟩ nm 0 (.slice p n c) = L := ⟨_, rfl⟩
  have hbx := boxed_new w L 67
  rw [hL]
  have h1 := hbx.cell 8 (.bool false) (by rw [← hL]; rfl)
  have h2 := hbx.cell 11 (.int .u32 0) (by rw [← hL]; rfl)
  have hk0 := Lib.hid hbx.k
  clear hL hbx
  go_enter Tryz.func92, Tryz.ntmps92
  go_upto_region 1 with fail
  generalize hW0 : w.alloc (Obj.cells L.toArray 67) = W0 at h1 h2 hk0 ⊢
  clear hW0
  go_wp2_with fail
  go_ret
  exact ⟨rfl, hk0.out⟩
set_option maxRecDepth 100000 in
set_option maxHeartbeats 8000000 in
theorem standLinks_alone (s : SetD) (nm : List UInt8) (n c : Nat) (p : Option Addr) (w : World) (hz : s.two = false) :
    Calls Tryz.prog 57 #[.agg (standVals s nm 0 (.slice p n c)).toArray] w fun e w' => ∃ p c, e = .returned (.slice p 1 c) ∧ RowsAt 4 linkVals w' (.slice p 1 c) [netL15 s] ∧ Keeps (fun _ => False) w w' := by
  have hsp := Lib.hid (fun W => standSpeaks_any s nm 0 n c p false W (Lib.hid (by unfold speaksB; simp)))
  have hhe := Lib.hid (fun W => standHears_zero s nm n c p W hz)
  have hne := Lib.hid (fun W => standNet_any s nm 0 (.slice p n c) W)
  obtain ⟨N, hN⟩ : ∃ N, netL15 s = N := ⟨_, rfl⟩
  rw [hN] at hne ⊢
  clear hN
  obtain ⟨ni, nd, nt, nc⟩ := N
  have e0 : (linkVals ⟨ni, nd, nt, nc⟩).toArray = #[.int .u32 ni, .int .u32 nd, .int .i64 nt, .int .i64 nc] := rfl
  rw [e0] at hne
  clear e0
  obtain ⟨L, hL⟩ : ∃ L, standVals s nm 0 (.slice p n c) = L := ⟨_, rfl⟩
  rw [hL] at hsp hhe hne ⊢
  have hbx := boxed_new w L 67
  have h1 := hbx.cell 8 (.bool false) (by rw [← hL, ← hz]; rfl)
  have hB := Lib.hid (BlkAt.new w 67 L)
  have hLl : L.length = 13 := by rw [← hL]; rfl
  have hi : (Tryz.prog.info? 67).map (·.size) = some L.length := by rw [hLl]; exact standInfo
  have hi' := Lib.hid hi
  have hk0 := Lib.hid hbx.k
  clear hL hbx hi hLl hz
  go_enter Tryz.func57, Tryz.ntmps57
  go_upto_region 1 with fail
  generalize hW0 : w.alloc (Obj.cells L.toArray 67) = W0 at h1 hB hk0 ⊢
  clear hW0
  obtain ⟨b, hb⟩ : ∃ b, w.heap.size = b := ⟨_, rfl⟩
  rw [hb] at hB h1 ⊢
  have hb' := Lib.hid hb
  clear hb
  go_wp2_with ((with_reducible refine at_slot 35 ?_); refine wpList_load_mid rfl 67 (.tmp 1) rfl b 0 rfl L _ hB.out.range Tryz.underlying67 rfl hi'.out ?_)
  refine (hsp.out _).mono ?_
  rintro e w1 ⟨rfl, k1⟩
  have hB1 := Lib.hid (hB.out.keep k1 id)
  have hk1 := Lib.hid (hk0.out.trans k1)
  clear hsp hB hk0 h1 k1
  go_wp2_with ((with_reducible refine at_slot 38 ?_); refine wpList_load_mid_gd rfl 67 (.tmp 1) rfl b 0 rfl L _ hB1.out.range Tryz.underlying67 rfl hi'.out ?_)
  refine (hhe.out _).mono ?_
  rintro e w2 ⟨rfl, k2⟩
  have hB2 := Lib.hid (hB1.out.keep k2 id)
  have hk2 := Lib.hid (hk1.out.trans k2)
  clear hhe hB1 hk1 k2
  go_wp2_with ((with_reducible refine at_slot 52 ?_); refine wpList_load_mid rfl 67 (.tmp 1) rfl b 0 rfl L _ hB2.out.range Tryz.underlying67 rfl hi'.out ?_)
  refine (hne.out _).mono ?_
  rintro e w3 ⟨rfl, k3⟩
  have hk3 := Lib.hid (hk2.out.trans k3)
  clear hne hB2 hk2 k3
  go_wp2_with fail
  have hBk := BlkAt.new w3 142 [.int .u32 ni, .int .u32 nd, .int .i64 nt, .int .i64 nc]
  go_ret
  refine ⟨_, _, rfl, ⟨_, _, rfl, (fun e => by cases e), Nat.le_refl _, fun _ => ⟨_, _, rfl, fun i x hx => ?_⟩⟩, hk3.out.alloc _⟩
  have hi0 : i = 0 := by have := (List.getElem?_eq_some_iff.1 hx).1; simp at this; omega
  subst hi0
  injection hx with hx
  subst hx
  exact hBk.range
end Go.Proofs.YtialookpnoaogaaGreat
/- The document's Net, walked. -/
namespace Go.Proofs.YtialookpnoaogaaGreat
open Go.RowKit

set_option maxRecDepth 100000 in
set_option maxHeartbeats 2000000 in
theorem rNet_r (s : ByteArray) (r : Option (Nat × Nat)) (w : World) (hs : s.size ≤ 8796093022000) (hr : Hid (netL s.data.toList = r)) :
    Calls Tryz.prog 41 #[.string s] w (NewRes (netRes r) w) := by
  have hq := hr.out
  rw [netL_eq] at hq
  obtain ⟨ps, hps⟩ : ∃ ps, ps = partsL 47 s.data.toList := ⟨_, rfl⟩
  rw [← hps] at hq
  have hpl := partsL_len 47 s.data.toList
  have hpe := partsL_each 47 s.data.toList
  rw [← hps] at hpl hpe
  have hps' := Lib.hid hps; have hq' := Lib.hid hq; have hpe' := Lib.hid hpe; clear hps hq hpe hr
  have hpl' : ps.length ≤ 8796093022001 := by simp at hpl; omega
  clear hpl
  go_enter Tryz.func41, Tryz.ntmps41
  go_wp2_with fail
  refine (parts_any s 47 _ hs).mono ?_
  rintro e w1 ⟨p, d, rfl, hown, hk⟩
  rw [← hps'.out] at *
  have hown1 := Lib.hid hown; have hk1 := Lib.hid hk
  have hat := hown.at
  clear hown hk
  by_cases h2 : ps.length = 2
  · obtain ⟨x, y, rfl⟩ : ∃ x y, ps = [x, y] := by
      match ps, h2 with
      | [x, y], _ => exact ⟨x, y, rfl⟩
    have hq2 := hq'.out
    simp only [netParts] at hq2
    obtain ⟨p', c', hpe2, hr0⟩ := hat
    obtain ⟨g, o, rfl, hr1⟩ := hr0 (by simp)
    have e1 : p = some ⟨g, o, none⟩ := by injection hpe2
    subst e1
    obtain ⟨X, hX⟩ : ∃ X : ByteArray, X = ⟨x.toArray⟩ := ⟨_, rfl⟩
    obtain ⟨Y, hY⟩ : ∃ Y : ByteArray, Y = ⟨y.toArray⟩ := ⟨_, rfl⟩
    have c1 : w1.cell? ⟨g, o, none⟩ = some (.string X) := by rw [hX]; exact hr1 0 _ (by simp [strv])
    have c2 : w1.cell? ⟨g, o + 1, none⟩ = some (.string Y) := by rw [hY]; exact hr1 1 _ (by simp [strv])
    have hlt : g < w1.heap.size := World.block_lt_of_cell? w1 _ c1
    have hXl : X.data.toList = x := by rw [hX]
    have hYl : Y.data.toList = y := by rw [hY]
    have hXs : X.size ≤ s.size := by
      have := hpe'.out x (by simp)
      rw [← hXl] at this; simpa using this
    rw [← hXl, ← hYl] at hq2
    clear hX hXl hY hYl hpe2 hr0 hr1 h2
    rw [show [x, y].length = 2 from rfl]
    have kc : ∀ w2, Keeps (fun _ => False) w1 w2 → w2.cell? ⟨g, o + 1, none⟩ = some (.string Y) := fun w2 k => (k.cell (p := ⟨g, o + 1, none⟩) hlt id).trans c2
    have kc' := Lib.hid kc; clear kc c2
    cases ha : addrL X.data.toList with
    | none =>
      rw [ha] at hq2
      have ha' := Lib.hid ha; clear ha
      obtain rfl : r = none := by cases hd : decL Y.data.toList <;> rw [hd] at hq2 <;> exact hq2.symm
      clear hq2
      cases hd : decL Y.data.toList with
      | none =>
        have hd' := Lib.hid hd; clear hd
        go_wp2_with (first | (go_at_call 38; refine (rAddr_none X _ (by omega) ha').mono ?_; rintro e w2 ⟨rfl, hk2⟩; have c2 := kc'.out w2 hk2; have hkr := Lib.hid hk2; clear hk2) | (go_at_call 69; refine (rDec_none Y _ hd').mono ?_; rintro e w' ⟨rfl, rfl⟩))
        go_ret3
        exact ⟨rfl, hk1.out.trans hkr.out⟩
      | some n =>
        have hd' := Lib.hid hd; clear hd
        go_wp2_with (first | (go_at_call 38; refine (rAddr_none X _ (by omega) ha').mono ?_; rintro e w2 ⟨rfl, hk2⟩; have c2 := kc'.out w2 hk2; have hkr := Lib.hid hk2; clear hk2) | (go_at_call 69; refine (rDec_some Y n _ hd').mono ?_; rintro e w' ⟨rfl, rfl⟩))
        go_ret3
        exact ⟨rfl, hk1.out.trans hkr.out⟩
    | some a =>
      rw [ha] at hq2
      have ha' := Lib.hid ha; clear ha
      cases hd : decL Y.data.toList with
      | none =>
        rw [hd] at hq2
        obtain rfl : r = none := hq2.symm
        have hd' := Lib.hid hd; clear hd hq2
        go_wp2_with (first | (go_at_call 38; refine (rAddr_some X a _ (by omega) ha').mono ?_; rintro e w2 ⟨rfl, hk2⟩; have c2 := kc'.out w2 hk2; have hkr := Lib.hid hk2; clear hk2) | (go_at_call 69; refine (rDec_none Y _ hd').mono ?_; rintro e w' ⟨rfl, rfl⟩))
        go_ret3
        exact ⟨rfl, hk1.out.trans hkr.out⟩
      | some n =>
        rw [hd] at hq2
        simp only at hq2
        have hd' := Lib.hid hd; clear hd
        by_cases h1 : 1 ≤ n
        · by_cases h2 : n ≤ 32
          · rw [if_pos ⟨h1, h2⟩] at hq2
            obtain rfl : r = some (a, n) := hq2.symm
            clear hq2
            go_wp2_with (first | (go_at_call 38; refine (rAddr_some X a _ (by omega) ha').mono ?_; rintro e w2 ⟨rfl, hk2⟩; have c2 := kc'.out w2 hk2; have hkr := Lib.hid hk2; clear hk2) | (go_at_call 69; refine (rDec_some Y n _ hd').mono ?_; rintro e w' ⟨rfl, rfl⟩))
            go_ret3
            exact ⟨rfl, hk1.out.trans hkr.out⟩
          · rw [if_neg (by omega)] at hq2
            obtain rfl : r = none := hq2.symm
            clear hq2
            go_wp2_with (first | (go_at_call 38; refine (rAddr_some X a _ (by omega) ha').mono ?_; rintro e w2 ⟨rfl, hk2⟩; have c2 := kc'.out w2 hk2; have hkr := Lib.hid hk2; clear hk2) | (go_at_call 69; refine (rDec_some Y n _ hd').mono ?_; rintro e w' ⟨rfl, rfl⟩))
            go_ret3
            exact ⟨rfl, hk1.out.trans hkr.out⟩
        · rw [if_neg (by omega)] at hq2
          obtain rfl : r = none := hq2.symm
          clear hq2
          go_wp2_with (first | (go_at_call 38; refine (rAddr_some X a _ (by omega) ha').mono ?_; rintro e w2 ⟨rfl, hk2⟩; have c2 := kc'.out w2 hk2; have hkr := Lib.hid hk2; clear hk2) | (go_at_call 69; refine (rDec_some Y n _ hd').mono ?_; rintro e w' ⟨rfl, rfl⟩))
          go_ret3
          exact ⟨rfl, hk1.out.trans hkr.out⟩
  · have hq2 := hq'.out
    have hr2 : Hid (r = none) := Lib.hid (by
      rw [← hq2]
      match ps, h2 with
      | [], _ => rfl
      | [x], _ => rfl
      | [x, y], h => exact (h rfl).elim
      | x :: y :: z :: l, _ => rfl)
    have d1 : ((ps.length : Int) != 2) = true := by rw [bne_iff_ne]; omega
    have d2 : (ps.length != 2) = true := by simpa using h2
    clear hq2 h2 hat
    go_wp2
    go_ret3
    exact ⟨by rw [hr2.out]; rfl, hk1.out⟩
theorem rNet_none (s : ByteArray) (w : World) (hs : s.size ≤ 8796093022000) (h : Hid (netL s.data.toList = none)) :
    Calls Tryz.prog 41 #[.string s] w (NewRes (.tuple #[.int .u32 0, .int .i64 0, .bool false]) w) := rNet_r s none w hs h
theorem rNet_some (s : ByteArray) (a n : Nat) (w : World) (hs : s.size ≤ 8796093022000) (h : Hid (netL s.data.toList = some (a, n))) :
    Calls Tryz.prog 41 #[.string s] w (NewRes (.tuple #[.int .u32 (a : Nat), .int .i64 (n : Nat), .bool true]) w) := rNet_r s (some (a, n)) w hs h
end Go.Proofs.YtialookpnoaogaaGreat
/- Named, and the document's Word and Named, walked. -/
namespace Go.Proofs.YtialookpnoaogaaGreat
open Go.RowKit

theorem lexWords_one' {t : List UInt8} (h : isWordB t = true) : lexWords t = ([t], t.length, 0) := by
  have := (lexL_one (s := t)).2 h
  unfold lexWords; rw [this.1]
theorem lexWords_not' {t : List UInt8} {l : List (List UInt8)} {n : Nat} (h : isWordB t = false) (hw : lexWords t = (l, n, 0)) (h1 : l = [t]) : t = [123] ∨ t = [125] ∨ t = [59] := by
  subst h1
  have hl : lexL t = .ok [t] := by
    unfold lexWords at hw
    cases h : lexL t with
    | ok m => rw [h] at hw; injection hw with e _; rw [e]
    | bad m => rw [h] at hw; simp at hw
  have hn : ¬ ∀ c, t = [c] → signB c = false := fun hs => by
    have := (lexL_one (s := t)).1 ⟨hl, hs⟩
    rw [this] at h; cases h
  rw [Classical.not_forall] at hn
  obtain ⟨c, hc⟩ := hn
  rw [Classical.not_imp] at hc
  obtain ⟨rfl, hc⟩ := hc
  have hs : signB c = true := by simpa using hc
  have hc : c = 123 ∨ c = 125 ∨ c = 59 := by simpa [signB, or_assoc] using hs
  rcases hc with rfl | rfl | rfl <;> simp
theorem word_no_sign' {t : List UInt8} (h : isWordB t = true) : t ≠ [123] ∧ t ≠ [125] ∧ t ≠ [59] := by
  refine ⟨?_, ?_, ?_⟩ <;> (rintro rfl; revert h; decide)
theorem lexWords_err' (t : List UInt8) : (lexWords t).2.2 = 0 ∨ (lexWords t).2.2 = 3 := by
  unfold lexWords; cases lexL t <;> simp
theorem lexWords_len' (t : List UInt8) : (lexWords t).1.length ≤ t.length := by
  unfold lexWords
  cases h : lexL t with
  | bad n => simp
  | ok l =>
    have h1 := lexL_total t.length t (Nat.le_refl _) l h
    have h2 : ∀ m : List (List UInt8), (∀ w ∈ m, 1 ≤ w.length) → m.length ≤ total m := by
      intro m
      induction m with
      | nil => simp
      | cons a m ih =>
        intro h
        have := ih (fun w hw => h w (by simp [hw]))
        have := h a (by simp)
        simp [total] at *; omega
    have h3 := h2 l (fun w hw => by
      rcases h1.2 w hw with h | ⟨c, rfl, _⟩
      · unfold isWordB at h; simp at h; omega
      · simp)
    show l.length ≤ t.length
    omega
theorem rWords_l' (s : ByteArray) (l : List (List UInt8)) (n er : Nat) (w : World) (hs : s.size ≤ 8796093022208) (h : Hid (lexWords s.data.toList = (l, n, er))) :
    Calls Tryz.prog 132 #[.string s] w fun e w' => ∃ p c, e = .returned (.tuple #[.slice p l.length c, .int .i64 (n : Nat), .int .i64 (er : Nat)]) ∧ OwnStrs w w' (.slice p l.length c) l ∧ Keeps (fun _ => False) w w' :=
  (rWords_any s w hs).mono fun e w' h' => by unfold WordsPost at h'; rw [h.out] at h'; exact h'

set_option maxRecDepth 100000 in
set_option maxHeartbeats 1000000 in
theorem rWord_any (x : ByteArray) (r : Bool) (w : World) (hxs : x.size ≤ 8796093022000) (hr : Hid (isWordB x.data.toList = r)) :
    Calls Tryz.prog 108 #[.string x] w (NewRes (.bool r) w) := by
  go_enter Tryz.func108, Tryz.ntmps108
  go_wp2_with fail
  by_cases hw : isWordB x.data.toList = true
  · obtain rfl : r = true := by rw [← hr.out]; exact hw
    have hL := lexWords_one' hw
    have hL' := Lib.hid hL; clear hL
    obtain ⟨k1, k2, k3⟩ := word_no_sign' hw
    rw [← Lib.toList_data] at k1 k2 k3
    have e1 : (x.toList == [123]) = false := by simpa using k1
    have e2 : (x.toList == [125]) = false := by simpa using k2
    have e3 : (x.toList == [59]) = false := by simpa using k3
    clear k1 k2 k3 hw
    refine (rWords_l' x _ _ _ _ (by omega) hL').mono ?_
    rintro e w2 ⟨p2, c2, rfl, hown, hk⟩
    obtain ⟨g, o, rfl, hr1⟩ : ∃ g o, p2 = some ⟨g, o, none⟩ ∧ w2.rangeAt g o ([x.data.toList].map strv) := by
      obtain ⟨q, d, e, h⟩ := hown.at
      obtain ⟨g, o, rfl, hr⟩ := h (by simp)
      injection e with e1 e2 e3
      exact ⟨g, o, e1, hr⟩
    have c0 : w2.cell? ⟨g, o, none⟩ = some (.string x) := hr1 0 _ rfl
    have hown2 := Lib.hid hown; have hk2 := Lib.hid hk; clear hown hk hr1
    go_wp2
    go_ret
    exact ⟨rfl, hk2.out⟩
  · have hw1 : isWordB x.data.toList = false := by simpa using hw
    obtain rfl : r = false := by rw [← hr.out]; exact hw1
    obtain ⟨l, n, er, hL, hll, her⟩ : ∃ (l : List (List UInt8)) (n er : Nat), lexWords x.data.toList = (l, n, er) ∧ l.length ≤ x.size ∧ (er = 0 ∨ er = 3) :=
      ⟨(lexWords x.data.toList).1, (lexWords x.data.toList).2.1, (lexWords x.data.toList).2.2, rfl, by simpa using lexWords_len' x.data.toList, lexWords_err' _⟩
    have hnot : Hid (er = 0 → l = [x.data.toList] → x.data.toList = [123] ∨ x.data.toList = [125] ∨ x.data.toList = [59]) := Lib.hid fun h0 h1 => lexWords_not' hw1 (h0 ▸ hL) h1
    have hL' := Lib.hid hL; clear hL hw hw1
    refine (rWords_l' x l n er _ (by omega) hL').mono ?_
    rintro e w2 ⟨p2, c2, rfl, hown, hk⟩
    have hown2 := Lib.hid hown; have hk2 := Lib.hid hk; clear hown hk
    rcases her with rfl | rfl
    · by_cases hl1 : l.length = 1
      · obtain ⟨y, rfl⟩ := List.length_eq_one_iff.1 hl1
        clear hl1 hll
        obtain ⟨g, o, rfl, hr1⟩ : ∃ g o, p2 = some ⟨g, o, none⟩ ∧ w2.rangeAt g o ([y].map strv) := by
          obtain ⟨q, d, e, h⟩ := hown2.out.at
          obtain ⟨g, o, rfl, hr⟩ := h (by simp)
          injection e with e1 e2 e3
          exact ⟨g, o, e1, hr⟩
        obtain ⟨Y, hY⟩ : ∃ Y : ByteArray, Y = ⟨y.toArray⟩ := ⟨_, rfl⟩
        have c0 : w2.cell? ⟨g, o, none⟩ = some (.string Y) := by rw [hY]; exact hr1 0 _ rfl
        have hYl : Y.toList = y := by rw [hY, Lib.toList_data]
        clear hr1 hY
        by_cases hyx : y = x.data.toList
        · have hs3 := hnot.out rfl (by rw [hyx])
          rw [← Lib.toList_data] at hs3 hyx
          have hE : (Y.toList == x.toList) = true := by rw [hYl, hyx]; simp
          have hy' := Lib.hid hyx; have hYl' := Lib.hid hYl; clear hyx hYl
          rcases hs3 with h3 | h3 | h3
          · have e1 : (x.toList == [123]) = true := by rw [h3]; rfl
            have h3' := Lib.hid h3; clear h3
            go_wp2
            go_ret
            exact ⟨rfl, hk2.out⟩
          · have e1 : (x.toList == [123]) = false := by rw [h3]; rfl
            have e2 : (x.toList == [125]) = true := by rw [h3]; rfl
            have h3' := Lib.hid h3; clear h3
            go_wp2
            go_ret
            exact ⟨rfl, hk2.out⟩
          · have e1 : (x.toList == [123]) = false := by rw [h3]; rfl
            have e2 : (x.toList == [125]) = false := by rw [h3]; rfl
            have e3 : (x.toList == [59]) = true := by rw [h3]; rfl
            have h3' := Lib.hid h3; clear h3
            go_wp2
            go_ret
            exact ⟨rfl, hk2.out⟩
        · have hE : (Y.toList == x.toList) = false := by rw [hYl, Lib.toList_data]; simpa using hyx
          have hYl' := Lib.hid hYl; clear hyx hYl
          go_wp2
          go_ret
          exact ⟨rfl, hk2.out⟩
      · have hE : ((l.length : Int) == 1) = false := by rw [beq_eq_false_iff_ne]; omega
        have hE2 : (l.length == 1) = false := by simpa using hl1
        clear hl1
        go_wp2
        go_ret
        exact ⟨rfl, hk2.out⟩
    · go_wp2
      go_ret
      exact ⟨rfl, hk2.out⟩
end Go.Proofs.YtialookpnoaogaaGreat
/- Named, the code's and the document's, walked. -/
namespace Go.Proofs.YtialookpnoaogaaGreat
open Go.RowKit

def namedB (head : Int) (name : List UInt8) : Bool :=
  if head = 0 then name.isEmpty else if head = 1 then (addrL name).isSome else if head = 2 then isWordB name && !name.contains 47 else false

theorem empty_eq (s : ByteArray) : (s.toList == []) = s.data.toList.isEmpty := by
  rw [Lib.toList_data]; cases s.data.toList <;> rfl
set_option maxRecDepth 100000 in
set_option maxHeartbeats 1000000 in
theorem named_any (head : Int) (s : ByteArray) (r : Bool) (w : World) (hs : s.size ≤ 9223372036854775807) (hr : Hid (namedB head s.data.toList = r)) :
    Calls Tryz.prog 113 #[.int .i64 head, .string s] w fun e w' => e = .returned (.bool r) ∧ ∃ m, w' = w.drewN m := by
  have hq := hr.out
  unfold namedB at hq
  by_cases h0 : head = 0
  · subst h0
    rw [if_pos rfl] at hq
    have e1 : s.toList.isEmpty = r := by rw [Lib.toList_data]; exact hq
    clear hq hr
    cases r with
    | true =>
      go_enter Tryz.func113, Tryz.ntmps113
      go_wp2
      go_ret
      exact ⟨rfl, 0, rfl⟩
    | false =>
      go_enter Tryz.func113, Tryz.ntmps113
      go_wp2
      go_ret
      exact ⟨rfl, 0, rfl⟩
  have d0 : (head == 0) = false := by simpa using h0
  rw [if_neg h0] at hq
  by_cases h1 : head = 1
  · subst h1
    rw [if_pos rfl] at hq
    clear hr d0
    cases ha : addrL s.data.toList with
    | none =>
      obtain rfl : r = false := by rw [← hq, ha]; rfl
      have ha' := Lib.hid ha; clear ha hq h0
      go_enter Tryz.func113, Tryz.ntmps113
      go_wp2_with (go_at_call 36; refine (addr_none s _ hs ha').mono ?_; rintro e w2 ⟨rfl, m2, rfl⟩)
      go_ret
      exact ⟨rfl, m2, rfl⟩
    | some a =>
      obtain rfl : r = true := by rw [← hq, ha]; rfl
      have ha' := Lib.hid ha; clear ha hq h0
      go_enter Tryz.func113, Tryz.ntmps113
      go_wp2_with (go_at_call 36; refine (addr_some s a _ hs ha').mono ?_; rintro e w2 ⟨rfl, m2, rfl⟩)
      go_ret
      exact ⟨rfl, m2, rfl⟩
  have d1 : (head == 1) = false := by simpa using h1
  rw [if_neg h1] at hq
  by_cases h2 : head = 2
  · subst h2
    rw [if_pos rfl] at hq
    clear hr d0 d1 h0 h1
    obtain ⟨b, hb⟩ : ∃ b, isWordB s.data.toList = b := ⟨_, rfl⟩
    obtain ⟨c, hc⟩ : ∃ c, decide ((47 : UInt8) ∈ s.data.toList) = c := ⟨_, rfl⟩
    have hq2 : (b && !c) = r := by rw [← hq, ← hb, ← hc]; simp
    have hb' := Lib.hid hb; have hc' := Lib.hid hc; clear hb hc hq
    cases b with
    | true =>
      cases c with
      | true =>
        obtain rfl : r = false := hq2.symm
        clear hq2
        go_enter Tryz.func113, Tryz.ntmps113
        go_wp2_with (first | (go_at_call 134; refine (isWord_any s true _ hs hb').mono ?_; rintro e w' ⟨rfl, rfl⟩) | (go_at_call 135; refine (stringsContains_one s 47 _ true hc').mono ?_; rintro e w' ⟨rfl, rfl⟩))
        go_ret
        exact ⟨rfl, 0, rfl⟩
      | false =>
        obtain rfl : r = true := hq2.symm
        clear hq2
        go_enter Tryz.func113, Tryz.ntmps113
        go_wp2_with (first | (go_at_call 134; refine (isWord_any s true _ hs hb').mono ?_; rintro e w' ⟨rfl, rfl⟩) | (go_at_call 135; refine (stringsContains_one s 47 _ false hc').mono ?_; rintro e w' ⟨rfl, rfl⟩))
        go_ret
        exact ⟨rfl, 0, rfl⟩
    | false =>
      obtain rfl : r = false := hq2.symm
      clear hq2
      go_enter Tryz.func113, Tryz.ntmps113
      go_wp2_with (go_at_call 134; refine (isWord_any s false _ hs hb').mono ?_; rintro e w' ⟨rfl, rfl⟩)
      go_ret
      exact ⟨rfl, 0, rfl⟩
  have d2 : (head == 2) = false := by simpa using h2
  rw [if_neg h2] at hq
  obtain rfl : r = false := hq.symm
  clear hq hr h0 h1 h2
  go_enter Tryz.func113, Tryz.ntmps113
  go_wp2
  go_ret
  exact ⟨rfl, 0, rfl⟩

set_option maxRecDepth 100000 in
set_option maxHeartbeats 1000000 in
theorem rNamed_any (head : Int) (s : ByteArray) (r : Bool) (w : World) (hs : s.size ≤ 8796093022000) (hr : Hid (namedB head s.data.toList = r)) :
    Calls Tryz.prog 76 #[.int .i64 head, .string s] w (NewRes (.bool r) w) := by
  have hq := hr.out
  unfold namedB at hq
  by_cases h0 : head = 0
  · subst h0
    rw [if_pos rfl] at hq
    have e1 : s.toList.isEmpty = r := by rw [Lib.toList_data]; exact hq
    clear hq hr
    cases r with
    | true =>
      go_enter Tryz.func76, Tryz.ntmps76
      go_wp2
      go_ret
      exact ⟨rfl, Keeps.refl _ _⟩
    | false =>
      go_enter Tryz.func76, Tryz.ntmps76
      go_wp2
      go_ret
      exact ⟨rfl, Keeps.refl _ _⟩
  have d0 : (head == 0) = false := by simpa using h0
  rw [if_neg h0] at hq
  by_cases h1 : head = 1
  · subst h1
    rw [if_pos rfl] at hq
    clear hr d0
    cases ha : addrL s.data.toList with
    | none =>
      obtain rfl : r = false := by rw [← hq, ha]; rfl
      have ha' := Lib.hid ha; clear ha hq h0
      go_enter Tryz.func76, Tryz.ntmps76
      go_wp2_with (go_at_call 38; refine (rAddr_none s _ hs ha').mono ?_; rintro e w2 ⟨rfl, hk2⟩; have hk2' := Lib.hid hk2; clear hk2)
      go_ret
      exact ⟨rfl, hk2'.out⟩
    | some a =>
      obtain rfl : r = true := by rw [← hq, ha]; rfl
      have ha' := Lib.hid ha; clear ha hq h0
      go_enter Tryz.func76, Tryz.ntmps76
      go_wp2_with (go_at_call 38; refine (rAddr_some s a _ hs ha').mono ?_; rintro e w2 ⟨rfl, hk2⟩; have hk2' := Lib.hid hk2; clear hk2)
      go_ret
      exact ⟨rfl, hk2'.out⟩
  have d1 : (head == 1) = false := by simpa using h1
  rw [if_neg h1] at hq
  by_cases h2 : head = 2
  · subst h2
    rw [if_pos rfl] at hq
    clear hr d0 d1 h0 h1
    obtain ⟨b, hb⟩ : ∃ b, isWordB s.data.toList = b := ⟨_, rfl⟩
    cases b with
    | true =>
      have hb' := Lib.hid hb
      by_cases hm : (47 : UInt8) ∈ s.data.toList
      · obtain rfl : r = false := by rw [← hq, hb]; simpa using hm
        obtain ⟨k, hk⟩ : ∃ k, (partsL 47 s.data.toList).length = k + 2 := by
          rw [partsL_yes hm]
          have := partsL_ne 47 (s.data.toList.drop (before 47 s.data.toList + 1))
          cases hp : partsL 47 (s.data.toList.drop (before 47 s.data.toList + 1)) with
          | nil => exact (this hp).elim
          | cons a l => exact ⟨l.length, by simp⟩
        have e1 : (((k + 2 : Nat) : Int) == 1) = false := by rw [beq_eq_false_iff_ne]; omega
        have e2 : ((k : Int) + 2 == 1) = false := by rw [beq_eq_false_iff_ne]; omega
        have hk' := Lib.hid hk; clear hk hb hq hm
        go_enter Tryz.func76, Tryz.ntmps76
        go_wp2_with (first | (go_at_call 108; refine (rWord_any s true _ hs hb').mono ?_; rintro e w2 ⟨rfl, hk2⟩; have hk2' := Lib.hid hk2; clear hk2) | (go_at_call 73; refine (parts_any s 47 _ hs).mono ?_; rintro e w3 ⟨p3, d3, rfl, ho3, hk3⟩; rw [hk'.out]; have hk3' := Lib.hid hk3; clear hk3 ho3))
        go_ret
        exact ⟨rfl, hk2'.out.trans hk3'.out⟩
      · obtain rfl : r = true := by rw [← hq, hb]; simpa using hm
        have hk : (partsL 47 s.data.toList).length = 1 := by rw [partsL_no hm]; rfl
        have hk' := Lib.hid hk; clear hk hb hq hm
        go_enter Tryz.func76, Tryz.ntmps76
        go_wp2_with (first | (go_at_call 108; refine (rWord_any s true _ hs hb').mono ?_; rintro e w2 ⟨rfl, hk2⟩; have hk2' := Lib.hid hk2; clear hk2) | (go_at_call 73; refine (parts_any s 47 _ hs).mono ?_; rintro e w3 ⟨p3, d3, rfl, ho3, hk3⟩; rw [hk'.out]; have hk3' := Lib.hid hk3; clear hk3 ho3))
        go_ret
        exact ⟨rfl, hk2'.out.trans hk3'.out⟩
    | false =>
      obtain rfl : r = false := by rw [← hq, hb]; rfl
      have hb' := Lib.hid hb; clear hb hq
      go_enter Tryz.func76, Tryz.ntmps76
      go_wp2_with (go_at_call 108; refine (rWord_any s false _ hs hb').mono ?_; rintro e w2 ⟨rfl, hk2⟩; have hk2' := Lib.hid hk2; clear hk2)
      go_ret
      exact ⟨rfl, hk2'.out⟩
  have d2 : (head == 2) = false := by simpa using h2
  rw [if_neg h2] at hq
  obtain rfl : r = false := hq.symm
  clear hq hr h0 h1 h2
  go_enter Tryz.func76, Tryz.ntmps76
  go_wp2
  go_ret
  exact ⟨rfl, Keeps.refl _ _⟩
end Go.Proofs.YtialookpnoaogaaGreat
