/- The document's Read, walked. -/
import Derived.Test.YtfflgbpppcfamaaDoorZRF
import Derived.Test.YtfflgbpppcfamaaDoorSCO
import Derived.Test.YtfflgbpppcfamaaDoorSCL
namespace Go.Proofs.YtfflgbpppcfamaaDoor
open Go.RowKit

theorem cmd6Info : (Tryd.prog.info? 31).map (·.size) = some 6 := by kernel_rfl
theorem sign_any (s : ByteArray) (r : Bool) (w : World) (hr : Hid (signW s.data.toList = r)) :
    Calls Tryd.prog 15 #[.string s] w fun e w' => e = .returned (.bool r) ∧ w = w' := by
  have hq := hr.out
  unfold signW at hq
  by_cases h1 : s.data.toList = [123]
  · have e1 : (s.toList == [123]) = true := by rw [Lib.toList_data, h1]; rfl
    rw [h1] at hq
    subst hq; clear hr h1
    go_enter Tryd.func15, Tryd.ntmps15
    go_wp2
    go_ret
    exact ⟨rfl, rfl⟩
  · have e1 : (s.toList == [123]) = false := by rw [Lib.toList_data]; simpa using h1
    have g1 : (s.data.toList == [123]) = false := by simpa using h1
    rw [g1] at hq
    by_cases h2 : s.data.toList = [125]
    · have e2 : (s.toList == [125]) = true := by rw [Lib.toList_data, h2]; rfl
      rw [h2] at hq
      subst hq; clear hr h1 h2 g1
      go_enter Tryd.func15, Tryd.ntmps15
      go_wp2
      go_ret
      exact ⟨rfl, rfl⟩
    · have e2 : (s.toList == [125]) = false := by rw [Lib.toList_data]; simpa using h2
      have g2 : (s.data.toList == [125]) = false := by simpa using h2
      rw [g2] at hq
      by_cases h3 : s.data.toList = [59]
      · have e3 : (s.toList == [59]) = true := by rw [Lib.toList_data, h3]; rfl
        rw [h3] at hq
        subst hq; clear hr h1 h2 h3 g1 g2
        go_enter Tryd.func15, Tryd.ntmps15
        go_wp2
        go_ret
        exact ⟨rfl, rfl⟩
      · have e3 : (s.toList == [59]) = false := by rw [Lib.toList_data]; simpa using h3
        have g3 : (s.data.toList == [59]) = false := by simpa using h3
        rw [g3] at hq
        obtain rfl : r = false := hq.symm
        clear hr h1 h2 h3 g1 g2 g3 hq
        go_enter Tryd.func15, Tryd.ntmps15
        go_wp2
        go_ret
        exact ⟨rfl, rfl⟩
theorem rHead_any (s : ByteArray) (r : Int) (w : World) (hr : Hid (headD s.data.toList = r)) :
    Calls Tryd.prog 17 #[.string s] w fun e w' => e = .returned (.int .i64 r) ∧ w = w' := by
  have hq := hr.out
  unfold headD at hq
  by_cases h1 : s.data.toList = areaW
  · rw [if_pos h1] at hq
    have e1 : (s.toList == [97, 114, 101, 97]) = true := by rw [Lib.toList_data, h1]; rfl
    subst hq; clear hr h1
    go_enter Tryd.func17, Tryd.ntmps17
    go_wp2
    go_ret
    exact ⟨rfl, rfl⟩
  · rw [if_neg h1] at hq
    have e1 : (s.toList == [97, 114, 101, 97]) = false := by rw [Lib.toList_data]; simpa [areaW] using h1
    by_cases h2 : s.data.toList = faceW
    · rw [if_pos h2] at hq
      have e2 : (s.toList == [105, 110, 116, 101, 114, 102, 97, 99, 101]) = true := by rw [Lib.toList_data, h2]; rfl
      subst hq; clear hr h1 h2
      go_enter Tryd.func17, Tryd.ntmps17
      go_wp2
      go_ret
      exact ⟨rfl, rfl⟩
    · rw [if_neg h2] at hq
      have e2 : (s.toList == [105, 110, 116, 101, 114, 102, 97, 99, 101]) = false := by rw [Lib.toList_data]; simpa [faceW] using h2
      subst hq; clear hr h1 h2
      go_enter Tryd.func17, Tryd.ntmps17
      go_wp2
      go_ret
      exact ⟨rfl, rfl⟩
def plainL : List (List UInt8) := [[], [], [], [115, 104, 111, 119], [99, 111, 109, 112, 97, 114, 101], [99, 104, 101, 99, 107], [99, 111, 109, 109, 105, 116], [], [99, 111, 110, 102, 105, 114, 109]]
theorem plain_yes {x : List UInt8} (hx : x ≠ []) {k : Nat} (hk : 3 ≤ k) (h : plainL[k]? = some x) : verbD x = k ∧ (k = 3 ∨ k = 4 ∨ k = 5 ∨ k = 6 ∨ k = 8) := by
  have hk9 : k < 9 := (List.getElem?_eq_some_iff.1 h).1
  rcases (show k = 3 ∨ k = 4 ∨ k = 5 ∨ k = 6 ∨ k = 7 ∨ k = 8 by omega) with rfl | rfl | rfl | rfl | rfl | rfl <;> have h := Option.some.inj h <;> subst h
  · exact ⟨by decide, by decide⟩
  · exact ⟨by decide, by decide⟩
  · exact ⟨by decide, by decide⟩
  · exact ⟨by decide, by decide⟩
  · exact absurd rfl hx
  · exact ⟨by decide, by decide⟩
theorem verb_get {x : List UInt8} {k : Nat} (h : verbD x = k) (h0 : k ≠ 0) : verbsL[k]? = some x := by
  unfold verbD at h
  cases hf : verbsL.findIdx? (· == x) with
  | none => rw [hf] at h; exact absurd h.symm h0
  | some i =>
    rw [hf] at h
    obtain rfl : i = k := h
    obtain ⟨hi, e, _⟩ := List.findIdx?_eq_some_iff_getElem.1 hf
    rw [List.getElem?_eq_getElem hi]
    simpa using e
theorem plain_no {x : List UInt8} (h : ∀ j, 3 ≤ j → j < 9 → plainL[j]? ≠ some x) : ¬ (verbD x = 3 ∨ verbD x = 4 ∨ verbD x = 5 ∨ verbD x = 6 ∨ verbD x = 8) := by
  rintro (e | e | e | e | e) <;> have e2 := verb_get e (by decide)
  · exact h 3 (by decide) (by decide) e2
  · exact h 4 (by decide) (by decide) e2
  · exact h 5 (by decide) (by decide) e2
  · exact h 6 (by decide) (by decide) e2
  · exact h 8 (by decide) (by decide) e2
theorem word_ne {t : List UInt8} {l : List (List UInt8)} (h : lexL t = .ok l) : ∀ x ∈ l, x ≠ [] := by
  rintro x hx rfl
  rcases (lexL_total t.length t (Nat.le_refl _) l h).2 _ hx with h | ⟨c, h, _⟩
  · revert h; decide
  · cases h
theorem verb_val {x : List UInt8} {k : Nat} {w : List UInt8} (hk : verbsL[k]? = some w) (h0 : k ≠ 0) (hw : verbD w = k) : (x = w) ↔ verbD x = k := by
  constructor
  · rintro rfl; exact hw
  · intro h; have := verb_get h h0; rw [hk] at this; injection this with this; exact this.symm
theorem verb_eqs (X : ByteArray) (k : Nat) (h : verbD X.data.toList = k) : (X.toList == [115, 101, 116]) = decide (k = 1) ∧ (X.toList == [100, 101, 108, 101, 116, 101]) = decide (k = 2) ∧ (X.toList == [99, 111, 109, 109, 105, 116, 45, 99, 111, 110, 102, 105, 114, 109, 101, 100]) = decide (k = 7) ∧ (X.toList == [114, 111, 108, 108, 98, 97, 99, 107]) = decide (k = 9) := by
  rw [Lib.toList_data]
  have gen : ∀ (j : Nat) (w : List UInt8), verbsL[j]? = some w → j ≠ 0 → verbD w = j → (X.data.toList == w) = decide (k = j) := fun j w h1 h0 h2 => by
    rw [Bool.eq_iff_iff, beq_iff_eq, decide_eq_true_eq, verb_val h1 h0 h2, h]
  exact ⟨gen 1 _ rfl (by decide) (by decide), gen 2 _ rfl (by decide) (by decide), gen 7 _ rfl (by decide) (by decide), gen 9 _ rfl (by decide) (by decide)⟩
theorem docin_set (h : Int) (N : List UInt8) (R : List (List UInt8)) (hl : R.length ≠ 2) : docSD.docIn 1 h N R = none := by
  match R, hl with
  | [], _ => rfl
  | [l], _ => rw [docin1, if_neg (by decide)]
  | [_, _], h => exact absurd rfl h
  | _ :: _ :: _ :: _, _ => rfl
theorem docin_del (h : Int) (N : List UInt8) (R : List (List UInt8)) (hl : R.length ≠ 1) : docSD.docIn 2 h N R = none := by
  match R, hl with
  | [], _ => rfl
  | [_], h => exact absurd rfl h
  | [_, _], _ => rw [docin2, if_neg (by decide)]
  | _ :: _ :: _ :: _, _ => rfl
theorem headD_cases (w : List UInt8) : headD w = 0 ∨ headD w = 1 ∨ headD w = 2 := by
  unfold headD; split
  · exact .inr (.inl rfl)
  · split
    · exact .inr (.inr rfl)
    · exact .inl rfl
theorem blk_no_cell {W : World} {b : Nat} {t : TypeId} {a h n : Int} {N L V S : ByteArray} (hb : BlkAt W b t [.int .i64 a, .int .i64 h, .string N, .string L, .string V, .int .i64 n]) (hc : W.cell? ⟨b, 0, none⟩ = some (.string S)) : False := by
  rw [hb.cell 0 _ rfl] at hc; injection hc with hc; cases hc
theorem rfind0 (head : Int) (nm : ByteArray) (w : World) (h : Hid (findD head nm.data.toList = none)) :
    Calls Tryd.prog 19 #[.int .i64 head, .string nm] w fun e w' => e = .returned (.tuple #[.agg #[.int .i64 0, .string ⟨#[]⟩, .int .i64 0, .int .i64 0, .int .i64 0, .slice none 0 0, .string ⟨#[]⟩, .int .i64 0], .bool false]) ∧ Keeps (fun _ => False) w w' := rFind_any head nm none w h
theorem rfind1 (head : Int) (nm : ByteArray) (r : RowD) (N F : ByteArray) (w : World) (h : Hid (findD head nm.data.toList = some r)) (hN : Hid (N = ⟨r.name.toArray⟩)) (hF : Hid (F = ⟨r.df.toArray⟩)) :
    Calls Tryd.prog 19 #[.int .i64 head, .string nm] w fun e w' => ∃ p cc, e = .returned (.tuple #[.agg #[.int .i64 r.head, .string N, .int .i64 r.kind, .int .i64 r.lo, .int .i64 r.hi, .slice p r.cs.length cc, .string F, .int .i64 r.cl], .bool true]) ∧ StrsAt w' (.slice p r.cs.length cc) r.cs ∧ (∀ i, (Value.slice p r.cs.length cc).ownBlock = some i → w.heap.size ≤ i) ∧ Keeps (fun _ => False) w w' := by
  rw [hN.out, hF.out]; exact rFind_new head nm (some r) w h

set_option maxRecDepth 100000 in
set_option maxHeartbeats 4000000 in
theorem rRead_any (s : ByteArray) (w : World) (hs : s.size ≤ 1000000) : Calls Tryd.prog 6 #[.string s] w (CmdPost (readD s.data.toList) w) := by
  have hB0 := Lib.hid (BlkAt.new w 31 [.int .i64 0, .int .i64 0, .string ⟨#[]⟩, .string ⟨#[]⟩, .string ⟨#[]⟩, .int .i64 0])
  have hK0 : Hid (Keeps (fun _ => False) w (w.alloc (.cells #[.int .i64 0, .int .i64 0, .string ⟨#[]⟩, .string ⟨#[]⟩, .string ⟨#[]⟩, .int .i64 0] 31))) := Lib.hid ((Keeps.refl _ _).alloc _)
  cases hl : lexL s.data.toList with
  | bad m =>
    have hr : readD s.data.toList = none := by unfold readD; rw [hl]
    rw [hr]
    have hl' := Lib.hid hl; clear hl
    obtain ⟨F, hF⟩ : ∃ F : Option CmdD, none = F := ⟨_, rfl⟩
    have hF' := Lib.hid hF
    rw [hF]
    clear hF hr
    go_enter Tryd.func6, Tryd.ntmps6
    go_wp2_with fail
    refine (rWords_bad s m _ (by omega) hl').mono ?_
    rintro e w1 ⟨⟨p, c, n, rfl⟩, k1⟩
    have hB1 := Lib.hid (hB0.out.keep k1 id); have hK1 := Lib.hid (hK0.out.trans k1)
    clear k1 hB0
    go_wp2_with ((with_reducible refine at_store 2 ?_); refine wpList_store_blk rfl 31 (.tmp 2) (.tmp 32) rfl w.heap.size #[.int .i64 0, .int .i64 0, .string ⟨#[]⟩, .string ⟨#[]⟩, .string ⟨#[]⟩, .int .i64 0] rfl rfl (BlkAt.there (hB1.out) 0 6 (Nat.le_refl 6)) cmd6Info (cmd_one _ _ _ _ _ _) ?_; intro w9 hr9 hs9)
    rw [show F = none from hF'.out.symm]
    refine bodyPost_ret (v := .tuple #[.agg #[.int .i64 0, .int .i64 0, .string ⟨#[]⟩, .string ⟨#[]⟩, .string ⟨#[]⟩, .int .i64 0], .bool false]) (ret_cell_tmp Tryd.results6 _ _ w.heap.size [.int .i64 0, .int .i64 0, .string ⟨#[]⟩, .string ⟨#[]⟩, .string ⟨#[]⟩, .int .i64 0] _ rfl hr9.out Tryd.underlying31 rfl cmd6Info) rfl (cmd_post_none (hK1.out.trans' hs9.out (fun i e => .inr (by omega))))
  | ok l =>
    have hbd := lexL_bounds hl
    have hne := word_ne hl
    have hll : s.data.toList.length = s.size := by simp
    have hl' := Lib.hid hl
    have hr : readD s.data.toList = docD l := by rw [doc_words]; unfold readD; rw [hl]
    rw [hr]
    obtain ⟨F, hF⟩ : ∃ F : Option CmdD, docD l = F := ⟨_, rfl⟩
    have hF' := Lib.hid hF
    rw [hF]
    clear hF hr hl
    cases l with
    | nil =>
      clear hbd hne
      go_enter Tryd.func6, Tryd.ntmps6
      go_wp2_with fail
      refine (rWords_ok s [] _ (by omega) hl').mono ?_
      rintro e w1 ⟨p, c, rfl, _, k1⟩
      have hB1 := Lib.hid (hB0.out.keep k1 id); have hK1 := Lib.hid (hK0.out.trans k1)
      clear k1 hB0
      go_wp2_with ((with_reducible refine at_store 2 ?_); refine wpList_store_blk rfl 31 (.tmp 2) (.tmp 32) rfl w.heap.size #[.int .i64 0, .int .i64 0, .string ⟨#[]⟩, .string ⟨#[]⟩, .string ⟨#[]⟩, .int .i64 0] rfl rfl (BlkAt.there (hB1.out) 0 6 (Nat.le_refl 6)) cmd6Info (cmd_one _ _ _ _ _ _) ?_; intro w9 hr9 hs9)
      rw [show F = none from hF'.out.symm]
      refine bodyPost_ret (v := .tuple #[.agg #[.int .i64 0, .int .i64 0, .string ⟨#[]⟩, .string ⟨#[]⟩, .string ⟨#[]⟩, .int .i64 0], .bool false]) (ret_cell_tmp Tryd.results6 _ _ w.heap.size [.int .i64 0, .int .i64 0, .string ⟨#[]⟩, .string ⟨#[]⟩, .string ⟨#[]⟩, .int .i64 0] _ rfl hr9.out Tryd.underlying31 rfl cmd6Info) rfl (cmd_post_none (hK1.out.trans' hs9.out (fun i e => .inr (by omega))))
    | cons x xs =>
      simp only [List.length_cons, List.mem_cons] at hbd hne
      have hxn : xs.length ≤ 1000000 := by omega
      have hxs : Hid (∀ y ∈ xs, y.length ≤ 8796093022000) := Lib.hid fun y hy => by have := hbd.2 y (.inr hy); omega
      have hxne : Hid (x ≠ []) := Lib.hid (hne x (.inl rfl))
      obtain ⟨X, hX⟩ : ∃ X : ByteArray, X = ⟨x.toArray⟩ := ⟨_, rfl⟩
      have hX' := Lib.hid hX
      obtain ⟨n, hn⟩ : ∃ n, xs.length + 1 = n := ⟨_, rfl⟩
      have hn' := Lib.hid hn
      have hnb : 1 ≤ n ∧ n ≤ 1000001 := by omega
      obtain ⟨hn1, hn2⟩ := hnb
      have hn0 : 0 < n := by omega
      clear hX hbd hne
      go_enter Tryd.func6, Tryd.ntmps6
      go_wp2_with fail
      refine (rWords_ok s (x :: xs) _ (by omega) hl').mono ?_
      rintro e w1 ⟨p, c, rfl, ho, k1⟩
      rw [List.length_cons, hn] at ho ⊢
      obtain ⟨g, rfl, hnc, hc0, htail⟩ := ho.tail hn.symm
      have hall : Hid (∀ j (hj : j < (x :: xs).length), w1.cell? ⟨g, j, none⟩ = some (.string ⟨((x :: xs)[j]).toArray⟩)) := Lib.hid fun j hj => by
        have := ho.1.cells (g := g) rfl j (strv ((x :: xs)[j])) (by rw [List.getElem?_map, List.getElem?_eq_getElem hj]; rfl)
        rw [Addr.add_mid] at this; simpa [strv] using this
      have hB1 := Lib.hid (hB0.out.keep k1 id); have hK1 := Lib.hid (hK0.out.trans k1)
      have hT1 := Lib.hid htail
      have hcX : Hid (w1.cell? ⟨g, 0, none⟩ = some (.string X)) := Lib.hid (by rw [hX'.out]; exact hc0)
      clear k1 hB0 hK0 ho htail hc0 hn hl' hll hxn
      have en0 : ((n : Int) == 0) = false := by rw [beq_eq_false_iff_ne]; omega
      go_wp2_with fail
      go_loopw [7] (fun i wr => ∃ k : Nat, k ≤ n ∧ i = .int .i64 k ∧ Hid (((x :: xs).take k).any signW = false) ∧ Hid (Keeps (fun _ => False) w1 wr)) (fun i _ => n - (intOf i).toNat)
      case atStart => exact ⟨0, by omega, rfl, Lib.hid rfl, Lib.hid (Keeps.refl _ _)⟩
      case round =>
        obtain ⟨k, hk, rfl, hno, hkr⟩ := hrel
        have hBr := Lib.hid (hB1.out.keep hkr.out id)
        by_cases hlt : k < n
        · have hkl : k < (x :: xs).length := by have := hn'.out; simp only [List.length_cons]; omega
          obtain ⟨Y, hY⟩ : ∃ Y : ByteArray, Y = ⟨((x :: xs)[k]).toArray⟩ := ⟨_, rfl⟩
          have cY : wr.cell? ⟨g, k, none⟩ = some (.string Y) := by rw [hY]; exact hkr.out.cell0 (hall.out k hkl)
          have hYl : Y.data.toList = (x :: xs)[k] := by rw [hY]
          cases hsg : signW Y.data.toList with
          | true =>
            have hsg' := Lib.hid hsg
            have hdoc : Hid (docD (x :: xs) = none) := Lib.hid (by
              unfold docD
              have : (x :: xs).any signW = true := List.any_eq_true.2 ⟨_, List.getElem_mem hkl, by rw [← hYl]; exact hsg⟩
              simp only [this, if_true])
            clear hsg hYl hY hno
            go_wp2_with (first | (go_at_call 15; refine (sign_any Y true _ hsg').mono ?_; rintro e w' ⟨rfl, rfl⟩) | ((with_reducible refine at_store 2 ?_); refine wpList_store_blk rfl 31 (.tmp 2) (.tmp 44) rfl w.heap.size #[.int .i64 0, .int .i64 0, .string ⟨#[]⟩, .string ⟨#[]⟩, .string ⟨#[]⟩, .int .i64 0] rfl rfl (BlkAt.there (hBr.out) 0 6 (Nat.le_refl 6)) cmd6Info (cmd_one _ _ _ _ _ _) ?_; intro w9 hr9 hs9))
            rw [show F = none by rw [← hF'.out]; exact hdoc.out]
            refine bodyPost_ret (v := .tuple #[.agg #[.int .i64 0, .int .i64 0, .string ⟨#[]⟩, .string ⟨#[]⟩, .string ⟨#[]⟩, .int .i64 0], .bool false]) (ret_cell_tmp Tryd.results6 _ _ w.heap.size [.int .i64 0, .int .i64 0, .string ⟨#[]⟩, .string ⟨#[]⟩, .string ⟨#[]⟩, .int .i64 0] _ rfl hr9.out Tryd.underlying31 rfl cmd6Info) rfl (cmd_post_none ((hK1.out.trans hkr.out).trans' hs9.out (fun i e => .inr (by omega))))
          | false =>
            have hsg' := Lib.hid hsg
            have hno' : Hid (((x :: xs).take (k + 1)).any signW = false) := Lib.hid (by
              rw [List.take_succ_eq_append_getElem hkl, List.any_append, hno.out, ← hYl]
              simp [hsg])
            clear hsg hYl hY hno
            go_wp2_with (go_at_call 15; refine (sign_any Y false _ hsg').mono ?_; rintro e w' ⟨rfl, rfl⟩)
            go_roundw
            case rel => exact ⟨k + 1, by omega, by go_num, hno', hkr⟩
            case measure => simp [intOf]; omega
        · obtain rfl : n = k := by omega
          have hns : Hid ((x :: xs).any signW = false) := Lib.hid (by
            have h1 := hno.out
            rwa [List.take_of_length_le (by have := hn'.out; simp only [List.length_cons]; omega)] at h1)
          clear hno hlt hk
          obtain ⟨W2, hW2⟩ : ∃ W2, W2 = wr.alloc (.cells #[.string ⟨#[]⟩, .string ⟨#[]⟩, .string ⟨#[]⟩, .string ⟨#[115, 104, 111, 119]⟩, .string ⟨#[99, 111, 109, 112, 97, 114, 101]⟩, .string ⟨#[99, 104, 101, 99, 107]⟩, .string ⟨#[99, 111, 109, 109, 105, 116]⟩, .string ⟨#[]⟩, .string ⟨#[99, 111, 110, 102, 105, 114, 109]⟩] 9) := ⟨_, rfl⟩
          have hBp : Hid (BlkAt W2 wr.heap.size 9 (plainL.map strv)) := Lib.hid (by rw [hW2]; exact BlkAt.new wr 9 (plainL.map strv))
          have hk12 : Keeps (fun _ => False) w1 W2 := by rw [hW2]; exact hkr.out.alloc _
          obtain ⟨Bp, hBpe⟩ : ∃ B, B = wr.heap.size := ⟨_, rfl⟩
          rw [← hBpe] at hBp
          have hBpe' := Lib.hid hBpe; clear hBpe
          have hB2 := Lib.hid (hB1.out.keep hk12 id); have hK2 := Lib.hid (hK1.out.trans hk12); have hcX2 := Lib.hid (hk12.cell0 hcX.out)
          have hT2 := Lib.hid (fun q hq => (hT1.out q hq).keep hk12)
          have hall2 := Lib.hid (fun j hj => hk12.cell0 (hall.out j hj))
          have hW2' := Lib.hid hW2
          clear hW2 hk12 hB1 hK1 hcX hT1 hBr hkr hall hT2
          go_wp2_with fail
          rw [← hW2'.out, ← hBpe'.out]
          clear hW2' hBpe'
          go_loopw [9] (fun i wr => ∃ k : Nat, 3 ≤ k ∧ k ≤ 9 ∧ i = .int .i64 k ∧ Hid (∀ j, 3 ≤ j → j < k → plainL[j]? ≠ some x) ∧ Hid (Keeps (fun _ => False) W2 wr)) (fun i _ => 9 - (intOf i).toNat)
          case atStart => exact ⟨3, by omega, by omega, rfl, Lib.hid (fun j h1 h2 => by omega), Lib.hid (Keeps.refl _ _)⟩
          case round =>
            obtain ⟨j, hj3, hj9, rfl, hno, hkr⟩ := hrel
            have hBr := Lib.hid (hB2.out.keep hkr.out id); have hKr := Lib.hid (hK2.out.trans hkr.out)
            by_cases hlt : j < 9
            · obtain ⟨y, hy⟩ : ∃ y, plainL[j]? = some y := ⟨_, List.getElem?_eq_getElem (show j < plainL.length from hlt)⟩
              obtain ⟨Y, hY⟩ : ∃ Y : ByteArray, Y = ⟨y.toArray⟩ := ⟨_, rfl⟩
              have hcY : Hid (W2.cell? ⟨Bp, j, none⟩ = some (.string Y)) := Lib.hid (by rw [hY]; exact hBp.out.cell j _ (by rw [List.getElem?_map, hy]; rfl))
              by_cases he : y = x
              · have e1 : (Y.toList == X.toList) = true := by rw [Lib.toList_data, Lib.toList_data, hY, hX'.out, he]; simp
                obtain ⟨hv, hj5⟩ := plain_yes hxne.out hj3 (by rw [hy, he])
                have e7 : ((j : Int) != 7) = true := by rw [bne_iff_ne]; omega
                have hdoc : Hid (docD (x :: xs) = if n = 1 then some ⟨j, 0, [], [], [], 0⟩ else none) := Lib.hid (by
                  unfold docD
                  simp only [hns.out, hv, hj5, if_true]
                  have : (xs = []) ↔ n = 1 := by rw [← hn'.out]; rw [← List.length_eq_zero_iff]; omega
                  simp only [this]; rfl)
                clear hv hj5 he hY hy hno
                go_upto_region 13 with fail
                refine wp_region_noPanic ?_
                refine wp_region_held_drew (S := (fun W => Keeps (fun _ => False) wr W)) (by kernel_rfl) (((Keeps.refl _ _).drew)) (fun hHeld => ?_)
                refine tk 0 rfl ?_
                refine tk 1 rfl ?_
                refine tk 2 rfl ?_
                refine tkL 3 rfl (yieldsIf_load_cell (by rfl) 9 (.tmp 52) rfl Bp j rfl _ (fun _ s => (hkr.out.trans s).cell0 hcY.out) (fun w s => load_strp w _ _ _ s)) ?_
                refine tk 4 rfl ?_
                refine tk 5 rfl ?_
                refine tkL 6 rfl (yieldsIf_load_cell (by rfl) 9 (.tmp 55) rfl g 0 rfl _ (fun _ s => (hkr.out.trans s).cell0 hcX2.out) (fun w s => load_strp w _ _ _ s)) ?_
                refine tk 7 rfl ?_
                refine tk 8 rfl ?_
                refine tk 9 rfl ?_
                refine tk 10 rfl ?_
                refine tk 11 rfl ?_
                refine wpAnyH_done (by kernel_rfl) (NoPanic.normal ?_) _
                have hBs := Lib.hid (hBr.out.keep hHeld id)
                have hKs := Lib.hid (hKr.out.trans hHeld)
                clear hHeld
                go_wp2_with ((with_reducible refine at_store 2 ?_); refine wpList_store_blk rfl 31 (.tmp 2) (.tmp 63) rfl w.heap.size #[.int .i64 j, .int .i64 0, .string ⟨#[]⟩, .string ⟨#[]⟩, .string ⟨#[]⟩, .int .i64 0] rfl rfl (BlkAt.there (hBs.out) 0 6 (Nat.le_refl 6)) cmd6Info (cmd_one _ _ _ _ _ _) ?_; intro w9 hr9 hs9)
                rw [show F = _ from hF'.out.symm, hdoc.out]
                refine bodyPost_ret (v := .tuple #[.agg #[.int .i64 j, .int .i64 0, .string ⟨#[]⟩, .string ⟨#[]⟩, .string ⟨#[]⟩, .int .i64 0], .bool ((n : Int) == 1)]) (ret_cell_tmp Tryd.results6 _ _ w.heap.size [.int .i64 j, .int .i64 0, .string ⟨#[]⟩, .string ⟨#[]⟩, .string ⟨#[]⟩, .int .i64 0] _ rfl hr9.out Tryd.underlying31 rfl cmd6Info) rfl ?_
                refine ⟨j, 0, ⟨#[]⟩, ⟨#[]⟩, ⟨#[]⟩, 0, ?_, hKs.out.trans' hs9.out (fun i e => .inr (by omega)), ?_⟩
                · by_cases h1 : n = 1
                  · rw [if_pos h1, h1]; rfl
                  · rw [if_neg h1, show ((n : Int) == 1) = false by rw [beq_eq_false_iff_ne]; omega]; rfl
                · intro cc hcc
                  by_cases h1 : n = 1
                  · rw [if_pos h1] at hcc; injection hcc with hcc; subst hcc; exact ⟨rfl, rfl, rfl, rfl, rfl, rfl⟩
                  · rw [if_neg h1] at hcc; cases hcc
              · have e1 : (Y.toList == X.toList) = false := by rw [Lib.toList_data, Lib.toList_data, hY, hX'.out]; simpa using he
                have hno' : Hid (∀ i, 3 ≤ i → i < j + 1 → plainL[i]? ≠ some x) := Lib.hid (fun i h1 h2 => by
                  by_cases e : i = j
                  · subst e; rw [hy]; intro h; injection h with h; exact he h
                  · exact hno.out i h1 (by omega))
                clear he hY hy hno
                go_upto_region 13 with fail
                refine wp_region_noPanic ?_
                refine wp_region_held_drew (S := (fun W => Keeps (fun _ => False) wr W)) (by kernel_rfl) (((Keeps.refl _ _).drew)) (fun hHeld => ?_)
                refine tk 0 rfl ?_
                refine tk 1 rfl ?_
                refine tk 2 rfl ?_
                refine tkL 3 rfl (yieldsIf_load_cell (by rfl) 9 (.tmp 52) rfl Bp j rfl _ (fun _ s => (hkr.out.trans s).cell0 hcY.out) (fun w s => load_strp w _ _ _ s)) ?_
                refine tk 4 rfl ?_
                refine tk 5 rfl ?_
                refine tkL 6 rfl (yieldsIf_load_cell (by rfl) 9 (.tmp 55) rfl g 0 rfl _ (fun _ s => (hkr.out.trans s).cell0 hcX2.out) (fun w s => load_strp w _ _ _ s)) ?_
                refine tk 7 rfl ?_
                refine tk 8 rfl ?_
                refine tkS 9 rfl ?_
                refine tkS 10 rfl ?_
                refine tk 11 rfl ?_
                refine wpAnyH_done (by kernel_rfl) (NoPanic.normal ?_) _
                have hKs := Lib.hid (hkr.out.trans hHeld)
                clear hHeld
                go_wp2_with fail
                go_roundw
                case rel => exact ⟨j + 1, by omega, by omega, by go_num, hno', hKs⟩
                case measure => simp [intOf]; omega
            · obtain rfl : j = 9 := by omega
              have hplain := plain_no hno.out
              obtain ⟨kx, hkx⟩ : ∃ kx, verbD X.data.toList = kx := ⟨_, rfl⟩
              obtain ⟨eS, eD, eC, eR⟩ := verb_eqs X kx hkx
              have hdoc : Hid (docD (x :: xs) = if kx = 7 ∧ xs.length = 1 then (numD xs 1 65535).map fun n => ⟨7, 0, [], [], [], n⟩ else if kx = 9 ∧ xs.length = 1 then (numD xs 0 5).map fun n => ⟨9, 0, [], [], [], n⟩ else if (kx ≠ 1 ∧ kx ≠ 2) ∨ xs = [] then none else docSD kx xs) := Lib.hid (by
                have hxk : verbD x = kx := by rw [← hkx, hX'.out]
                rw [hxk] at hplain
                unfold docD
                simp only [hns.out, hxk, hplain, if_false]
                rfl)
              have hallr := Lib.hid (fun j hj => hkr.out.cell0 (hall2.out j hj))
              have cX := hkr.out.cell0 hcX2.out
              have hn3 : xs.length + 1 = n := hn'.out
              clear hplain hkx hno hlt hj3 hj9 hcX2 hall2 hns hBp hB2 hK2
              by_cases h79 : (kx = 7 ∨ kx = 9) ∧ xs.length = 1
              · obtain ⟨h79, hl1⟩ := h79
                obtain ⟨y, rfl⟩ := List.length_eq_one_iff.1 hl1
                obtain rfl : n = 2 := by simpa using hn3.symm
                obtain ⟨Y, hY⟩ : ∃ Y : ByteArray, Y = ⟨y.toArray⟩ := ⟨_, rfl⟩
                have cY : wr.cell? ⟨g, 1, none⟩ = some (.string Y) := by rw [hY]; exact hallr.out 1 (by simp)
                have hYl : Y.data.toList = y := by rw [hY]
                clear hY hallr hl1
                rcases h79 with rfl | rfl
                · skip
                  as_aux_lemma =>
                  replace eS : (X.toList == [115, 101, 116]) = false := eS
                  have nS : (X.toList != [115, 101, 116]) = true := by rw [bne, eS]; rfl
                  replace eD : (X.toList == [100, 101, 108, 101, 116, 101]) = false := eD
                  have nD : (X.toList != [100, 101, 108, 101, 116, 101]) = true := by rw [bne, eD]; rfl
                  replace eC : (X.toList == [99, 111, 109, 109, 105, 116, 45, 99, 111, 110, 102, 105, 114, 109, 101, 100]) = true := eC
                  have nC : (X.toList != [99, 111, 109, 109, 105, 116, 45, 99, 111, 110, 102, 105, 114, 109, 101, 100]) = false := by rw [bne, eC]; rfl
                  replace eR : (X.toList == [114, 111, 108, 108, 98, 97, 99, 107]) = false := eR
                  have nR : (X.toList != [114, 111, 108, 108, 98, 97, 99, 107]) = true := by rw [bne, eR]; rfl
                  have hFd : F = (numD [y] 1 65535).map fun n => ⟨7, 0, [], [], [], n⟩ := by rw [← hF'.out, hdoc.out]; rfl
                  rw [num1] at hFd
                  cases hd : decL y with
                  | none =>
                    have hd' : Hid (decL Y.data.toList = none) := Lib.hid (by rw [hYl]; exact hd)
                    have hFv : F = none := by rw [hFd, hd]; rfl
                    clear hd hFd
                    go_wp2_with (first | (go_at_call 16; refine (rDec_none Y _ hd').mono ?_; rintro e w' ⟨rfl, rfl⟩) | ((with_reducible refine at_store 2 ?_); refine wpList_store_blk rfl 31 (.tmp 2) (.tmp 84) rfl w.heap.size #[.int .i64 7, .int .i64 0, .string ⟨#[]⟩, .string ⟨#[]⟩, .string ⟨#[]⟩, .int .i64 0] rfl rfl (BlkAt.there (hBr.out) 0 6 (Nat.le_refl 6)) cmd6Info (cmd_one _ _ _ _ _ _) ?_; intro w9 hr9 hs9))
                    try rw [hFv]
                    refine bodyPost_ret (v := .tuple #[.agg #[.int .i64 7, .int .i64 0, .string ⟨#[]⟩, .string ⟨#[]⟩, .string ⟨#[]⟩, .int .i64 0], .bool false]) (ret_cell_tmp Tryd.results6 _ _ w.heap.size [.int .i64 7, .int .i64 0, .string ⟨#[]⟩, .string ⟨#[]⟩, .string ⟨#[]⟩, .int .i64 0] _ rfl hr9.out Tryd.underlying31 rfl cmd6Info) rfl (cmd_post_none (hKr.out.trans' hs9.out (fun i e => .inr (by omega))))
                  | some m =>
                    have hd' : Hid (decL Y.data.toList = some m) := Lib.hid (by rw [hYl]; exact hd)
                    rw [hd] at hFd
                    clear hd
                    by_cases h1 : (1 : Int) ≤ (m : Int)
                    · by_cases h2 : (m : Int) ≤ 65535
                      · have hFv : F = some ⟨7, 0, [], [], [], m⟩ := by rw [hFd]; simp only [h1, h2, and_self, if_true]; rfl
                        clear hFd
                        go_wp2_with (first | (go_at_call 16; refine (rDec_some Y m _ hd').mono ?_; rintro e w' ⟨rfl, rfl⟩) | ((with_reducible refine at_store 2 ?_); refine wpList_store_blk rfl 31 (.tmp 2) (.tmp 84) rfl w.heap.size #[.int .i64 7, .int .i64 0, .string ⟨#[]⟩, .string ⟨#[]⟩, .string ⟨#[]⟩, .int .i64 m] rfl rfl (BlkAt.there (hBr.out) 0 6 (Nat.le_refl 6)) cmd6Info (cmd_one _ _ _ _ _ _) ?_; intro w9 hr9 hs9))
                        try rw [hFv]
                        refine bodyPost_ret (v := .tuple #[.agg #[.int .i64 7, .int .i64 0, .string ⟨#[]⟩, .string ⟨#[]⟩, .string ⟨#[]⟩, .int .i64 m], .bool true]) (ret_cell_tmp Tryd.results6 _ _ w.heap.size [.int .i64 7, .int .i64 0, .string ⟨#[]⟩, .string ⟨#[]⟩, .string ⟨#[]⟩, .int .i64 m] _ rfl hr9.out Tryd.underlying31 rfl cmd6Info) rfl ⟨7, 0, ⟨#[]⟩, ⟨#[]⟩, ⟨#[]⟩, m, rfl, hKr.out.trans' hs9.out (fun i e => .inr (by omega)), fun cc hcc => by injection hcc with hcc; subst hcc; exact ⟨rfl, rfl, rfl, rfl, rfl, rfl⟩⟩
                      · have hFv : F = none := by rw [hFd]; simp only [h2, and_false, if_false]; rfl
                        have e2 : decide ((m : Int) ≤ 65535) = false := by simpa using h2
                        clear hFd
                        go_wp2_with (first | (go_at_call 16; refine (rDec_some Y m _ hd').mono ?_; rintro e w' ⟨rfl, rfl⟩) | ((with_reducible refine at_store 2 ?_); refine wpList_store_blk rfl 31 (.tmp 2) (.tmp 84) rfl w.heap.size #[.int .i64 7, .int .i64 0, .string ⟨#[]⟩, .string ⟨#[]⟩, .string ⟨#[]⟩, .int .i64 m] rfl rfl (BlkAt.there (hBr.out) 0 6 (Nat.le_refl 6)) cmd6Info (cmd_one _ _ _ _ _ _) ?_; intro w9 hr9 hs9))
                        try rw [hFv]
                        refine bodyPost_ret (v := .tuple #[.agg #[.int .i64 7, .int .i64 0, .string ⟨#[]⟩, .string ⟨#[]⟩, .string ⟨#[]⟩, .int .i64 m], .bool false]) (ret_cell_tmp Tryd.results6 _ _ w.heap.size [.int .i64 7, .int .i64 0, .string ⟨#[]⟩, .string ⟨#[]⟩, .string ⟨#[]⟩, .int .i64 m] _ rfl hr9.out Tryd.underlying31 rfl cmd6Info) rfl (cmd_post_none (hKr.out.trans' hs9.out (fun i e => .inr (by omega))))
                    · have hFv : F = none := by rw [hFd]; simp only [h1, false_and, if_false]; rfl
                      have e2 : decide ((1 : Int) ≤ (m : Int)) = false := by simpa using h1
                      clear hFd
                      go_wp2_with (first | (go_at_call 16; refine (rDec_some Y m _ hd').mono ?_; rintro e w' ⟨rfl, rfl⟩) | ((with_reducible refine at_store 2 ?_); refine wpList_store_blk rfl 31 (.tmp 2) (.tmp 84) rfl w.heap.size #[.int .i64 7, .int .i64 0, .string ⟨#[]⟩, .string ⟨#[]⟩, .string ⟨#[]⟩, .int .i64 m] rfl rfl (BlkAt.there (hBr.out) 0 6 (Nat.le_refl 6)) cmd6Info (cmd_one _ _ _ _ _ _) ?_; intro w9 hr9 hs9))
                      try rw [hFv]
                      refine bodyPost_ret (v := .tuple #[.agg #[.int .i64 7, .int .i64 0, .string ⟨#[]⟩, .string ⟨#[]⟩, .string ⟨#[]⟩, .int .i64 m], .bool false]) (ret_cell_tmp Tryd.results6 _ _ w.heap.size [.int .i64 7, .int .i64 0, .string ⟨#[]⟩, .string ⟨#[]⟩, .string ⟨#[]⟩, .int .i64 m] _ rfl hr9.out Tryd.underlying31 rfl cmd6Info) rfl (cmd_post_none (hKr.out.trans' hs9.out (fun i e => .inr (by omega))))
                · skip
                  as_aux_lemma =>
                  replace eS : (X.toList == [115, 101, 116]) = false := eS
                  have nS : (X.toList != [115, 101, 116]) = true := by rw [bne, eS]; rfl
                  replace eD : (X.toList == [100, 101, 108, 101, 116, 101]) = false := eD
                  have nD : (X.toList != [100, 101, 108, 101, 116, 101]) = true := by rw [bne, eD]; rfl
                  replace eC : (X.toList == [99, 111, 109, 109, 105, 116, 45, 99, 111, 110, 102, 105, 114, 109, 101, 100]) = false := eC
                  have nC : (X.toList != [99, 111, 109, 109, 105, 116, 45, 99, 111, 110, 102, 105, 114, 109, 101, 100]) = true := by rw [bne, eC]; rfl
                  replace eR : (X.toList == [114, 111, 108, 108, 98, 97, 99, 107]) = true := eR
                  have nR : (X.toList != [114, 111, 108, 108, 98, 97, 99, 107]) = false := by rw [bne, eR]; rfl
                  have hFd : F = (numD [y] 0 5).map fun n => ⟨9, 0, [], [], [], n⟩ := by rw [← hF'.out, hdoc.out]; rfl
                  rw [num1] at hFd
                  cases hd : decL y with
                  | none =>
                    have hd' : Hid (decL Y.data.toList = none) := Lib.hid (by rw [hYl]; exact hd)
                    have hFv : F = none := by rw [hFd, hd]; rfl
                    clear hd hFd
                    go_wp2_with (first | (go_at_call 16; refine (rDec_none Y _ hd').mono ?_; rintro e w' ⟨rfl, rfl⟩) | ((with_reducible refine at_store 2 ?_); refine wpList_store_blk rfl 31 (.tmp 2) (.tmp 111) rfl w.heap.size #[.int .i64 9, .int .i64 0, .string ⟨#[]⟩, .string ⟨#[]⟩, .string ⟨#[]⟩, .int .i64 0] rfl rfl (BlkAt.there (hBr.out) 0 6 (Nat.le_refl 6)) cmd6Info (cmd_one _ _ _ _ _ _) ?_; intro w9 hr9 hs9))
                    try rw [hFv]
                    refine bodyPost_ret (v := .tuple #[.agg #[.int .i64 9, .int .i64 0, .string ⟨#[]⟩, .string ⟨#[]⟩, .string ⟨#[]⟩, .int .i64 0], .bool false]) (ret_cell_tmp Tryd.results6 _ _ w.heap.size [.int .i64 9, .int .i64 0, .string ⟨#[]⟩, .string ⟨#[]⟩, .string ⟨#[]⟩, .int .i64 0] _ rfl hr9.out Tryd.underlying31 rfl cmd6Info) rfl (cmd_post_none (hKr.out.trans' hs9.out (fun i e => .inr (by omega))))
                  | some m =>
                    have hd' : Hid (decL Y.data.toList = some m) := Lib.hid (by rw [hYl]; exact hd)
                    rw [hd] at hFd
                    clear hd
                    by_cases h1 : (0 : Int) ≤ (m : Int)
                    · by_cases h2 : (m : Int) ≤ 5
                      · have hFv : F = some ⟨9, 0, [], [], [], m⟩ := by rw [hFd]; simp only [h1, h2, and_self, if_true]; rfl
                        clear hFd
                        go_wp2_with (first | (go_at_call 16; refine (rDec_some Y m _ hd').mono ?_; rintro e w' ⟨rfl, rfl⟩) | ((with_reducible refine at_store 2 ?_); refine wpList_store_blk rfl 31 (.tmp 2) (.tmp 111) rfl w.heap.size #[.int .i64 9, .int .i64 0, .string ⟨#[]⟩, .string ⟨#[]⟩, .string ⟨#[]⟩, .int .i64 m] rfl rfl (BlkAt.there (hBr.out) 0 6 (Nat.le_refl 6)) cmd6Info (cmd_one _ _ _ _ _ _) ?_; intro w9 hr9 hs9))
                        try rw [hFv]
                        refine bodyPost_ret (v := .tuple #[.agg #[.int .i64 9, .int .i64 0, .string ⟨#[]⟩, .string ⟨#[]⟩, .string ⟨#[]⟩, .int .i64 m], .bool true]) (ret_cell_tmp Tryd.results6 _ _ w.heap.size [.int .i64 9, .int .i64 0, .string ⟨#[]⟩, .string ⟨#[]⟩, .string ⟨#[]⟩, .int .i64 m] _ rfl hr9.out Tryd.underlying31 rfl cmd6Info) rfl ⟨9, 0, ⟨#[]⟩, ⟨#[]⟩, ⟨#[]⟩, m, rfl, hKr.out.trans' hs9.out (fun i e => .inr (by omega)), fun cc hcc => by injection hcc with hcc; subst hcc; exact ⟨rfl, rfl, rfl, rfl, rfl, rfl⟩⟩
                      · have hFv : F = none := by rw [hFd]; simp only [h2, and_false, if_false]; rfl
                        have e2 : decide ((m : Int) ≤ 5) = false := by simpa using h2
                        clear hFd
                        go_wp2_with (first | (go_at_call 16; refine (rDec_some Y m _ hd').mono ?_; rintro e w' ⟨rfl, rfl⟩) | ((with_reducible refine at_store 2 ?_); refine wpList_store_blk rfl 31 (.tmp 2) (.tmp 111) rfl w.heap.size #[.int .i64 9, .int .i64 0, .string ⟨#[]⟩, .string ⟨#[]⟩, .string ⟨#[]⟩, .int .i64 m] rfl rfl (BlkAt.there (hBr.out) 0 6 (Nat.le_refl 6)) cmd6Info (cmd_one _ _ _ _ _ _) ?_; intro w9 hr9 hs9))
                        try rw [hFv]
                        refine bodyPost_ret (v := .tuple #[.agg #[.int .i64 9, .int .i64 0, .string ⟨#[]⟩, .string ⟨#[]⟩, .string ⟨#[]⟩, .int .i64 m], .bool false]) (ret_cell_tmp Tryd.results6 _ _ w.heap.size [.int .i64 9, .int .i64 0, .string ⟨#[]⟩, .string ⟨#[]⟩, .string ⟨#[]⟩, .int .i64 m] _ rfl hr9.out Tryd.underlying31 rfl cmd6Info) rfl (cmd_post_none (hKr.out.trans' hs9.out (fun i e => .inr (by omega))))
                    · have hFv : F = none := by rw [hFd]; simp only [h1, false_and, if_false]; rfl
                      exact absurd (by omega) h1
              by_cases h12 : (kx = 1 ∨ kx = 2) ∧ xs ≠ []
              rotate_left
              · have hFv : F = none := by
                  rw [← hF'.out, hdoc.out, if_neg (fun h => h79 ⟨.inl h.1, h.2⟩), if_neg (fun h => h79 ⟨.inr h.1, h.2⟩), if_pos ?_]
                  by_cases hx0 : xs = []
                  · exact .inr hx0
                  · exact .inl ⟨fun e => h12 ⟨.inl e, hx0⟩, fun e => h12 ⟨.inr e, hx0⟩⟩
                have hlen : xs.length = 1 ↔ n = 2 := by omega
                by_cases h7 : kx = 7
                · subst h7
                  as_aux_lemma =>
                  replace eS : (X.toList == [115, 101, 116]) = false := eS
                  have nS : (X.toList != [115, 101, 116]) = true := by rw [bne, eS]; rfl
                  replace eD : (X.toList == [100, 101, 108, 101, 116, 101]) = false := eD
                  have nD : (X.toList != [100, 101, 108, 101, 116, 101]) = true := by rw [bne, eD]; rfl
                  replace eC : (X.toList == [99, 111, 109, 109, 105, 116, 45, 99, 111, 110, 102, 105, 114, 109, 101, 100]) = true := eC
                  have nC : (X.toList != [99, 111, 109, 109, 105, 116, 45, 99, 111, 110, 102, 105, 114, 109, 101, 100]) = false := by rw [bne, eC]; rfl
                  replace eR : (X.toList == [114, 111, 108, 108, 98, 97, 99, 107]) = false := eR
                  have nR : (X.toList != [114, 111, 108, 108, 98, 97, 99, 107]) = true := by rw [bne, eR]; rfl
                  have hn22 : ¬ n = 2 := fun e => h79 ⟨.inl rfl, hlen.2 e⟩
                  have en2 : ((n : Int) == 2) = false := by rw [beq_eq_false_iff_ne]; omega
                  have fn2 : (n == 2) = false := by rw [beq_eq_false_iff_ne]; omega
                  clear hlen h79 h12 hallr
                  go_wp2_with ((with_reducible refine at_store 2 ?_); refine wpList_store_blk rfl 31 (.tmp 2) (.tmp 132) rfl w.heap.size #[.int .i64 0, .int .i64 0, .string ⟨#[]⟩, .string ⟨#[]⟩, .string ⟨#[]⟩, .int .i64 0] rfl rfl (BlkAt.there (hBr.out) 0 6 (Nat.le_refl 6)) cmd6Info (cmd_one _ _ _ _ _ _) ?_; intro w9 hr9 hs9)
                  try rw [hFv]
                  refine bodyPost_ret (v := .tuple #[.agg #[.int .i64 0, .int .i64 0, .string ⟨#[]⟩, .string ⟨#[]⟩, .string ⟨#[]⟩, .int .i64 0], .bool false]) (ret_cell_tmp Tryd.results6 _ _ w.heap.size [.int .i64 0, .int .i64 0, .string ⟨#[]⟩, .string ⟨#[]⟩, .string ⟨#[]⟩, .int .i64 0] _ rfl hr9.out Tryd.underlying31 rfl cmd6Info) rfl (cmd_post_none (hKr.out.trans' hs9.out (fun i e => .inr (by omega))))
                by_cases h9 : kx = 9
                · subst h9
                  as_aux_lemma =>
                  replace eS : (X.toList == [115, 101, 116]) = false := eS
                  have nS : (X.toList != [115, 101, 116]) = true := by rw [bne, eS]; rfl
                  replace eD : (X.toList == [100, 101, 108, 101, 116, 101]) = false := eD
                  have nD : (X.toList != [100, 101, 108, 101, 116, 101]) = true := by rw [bne, eD]; rfl
                  replace eC : (X.toList == [99, 111, 109, 109, 105, 116, 45, 99, 111, 110, 102, 105, 114, 109, 101, 100]) = false := eC
                  have nC : (X.toList != [99, 111, 109, 109, 105, 116, 45, 99, 111, 110, 102, 105, 114, 109, 101, 100]) = true := by rw [bne, eC]; rfl
                  replace eR : (X.toList == [114, 111, 108, 108, 98, 97, 99, 107]) = true := eR
                  have nR : (X.toList != [114, 111, 108, 108, 98, 97, 99, 107]) = false := by rw [bne, eR]; rfl
                  have hn22 : ¬ n = 2 := fun e => h79 ⟨.inr rfl, hlen.2 e⟩
                  have en2 : ((n : Int) == 2) = false := by rw [beq_eq_false_iff_ne]; omega
                  have fn2 : (n == 2) = false := by rw [beq_eq_false_iff_ne]; omega
                  clear hlen h79 h12 hallr
                  go_wp2_with ((with_reducible refine at_store 2 ?_); refine wpList_store_blk rfl 31 (.tmp 2) (.tmp 132) rfl w.heap.size #[.int .i64 0, .int .i64 0, .string ⟨#[]⟩, .string ⟨#[]⟩, .string ⟨#[]⟩, .int .i64 0] rfl rfl (BlkAt.there (hBr.out) 0 6 (Nat.le_refl 6)) cmd6Info (cmd_one _ _ _ _ _ _) ?_; intro w9 hr9 hs9)
                  try rw [hFv]
                  refine bodyPost_ret (v := .tuple #[.agg #[.int .i64 0, .int .i64 0, .string ⟨#[]⟩, .string ⟨#[]⟩, .string ⟨#[]⟩, .int .i64 0], .bool false]) (ret_cell_tmp Tryd.results6 _ _ w.heap.size [.int .i64 0, .int .i64 0, .string ⟨#[]⟩, .string ⟨#[]⟩, .string ⟨#[]⟩, .int .i64 0] _ rfl hr9.out Tryd.underlying31 rfl cmd6Info) rfl (cmd_post_none (hKr.out.trans' hs9.out (fun i e => .inr (by omega))))
                by_cases h1 : kx = 1
                · subst h1
                  as_aux_lemma =>
                  replace eS : (X.toList == [115, 101, 116]) = true := eS
                  have nS : (X.toList != [115, 101, 116]) = false := by rw [bne, eS]; rfl
                  replace eD : (X.toList == [100, 101, 108, 101, 116, 101]) = false := eD
                  have nD : (X.toList != [100, 101, 108, 101, 116, 101]) = true := by rw [bne, eD]; rfl
                  replace eC : (X.toList == [99, 111, 109, 109, 105, 116, 45, 99, 111, 110, 102, 105, 114, 109, 101, 100]) = false := eC
                  have nC : (X.toList != [99, 111, 109, 109, 105, 116, 45, 99, 111, 110, 102, 105, 114, 109, 101, 100]) = true := by rw [bne, eC]; rfl
                  replace eR : (X.toList == [114, 111, 108, 108, 98, 97, 99, 107]) = false := eR
                  have nR : (X.toList != [114, 111, 108, 108, 98, 97, 99, 107]) = true := by rw [bne, eR]; rfl
                  have hx0 : xs = [] := Classical.byContradiction fun h => h12 ⟨.inl rfl, h⟩
                  subst hx0
                  obtain rfl : n = 1 := by simpa using hn3.symm
                  clear hlen h79 h12 hallr h7 h9
                  go_wp2_with ((with_reducible refine at_store 2 ?_); refine wpList_store_blk rfl 31 (.tmp 2) (.tmp 132) rfl w.heap.size #[.int .i64 0, .int .i64 0, .string ⟨#[]⟩, .string ⟨#[]⟩, .string ⟨#[]⟩, .int .i64 0] rfl rfl (BlkAt.there (hBr.out) 0 6 (Nat.le_refl 6)) cmd6Info (cmd_one _ _ _ _ _ _) ?_; intro w9 hr9 hs9)
                  try rw [hFv]
                  refine bodyPost_ret (v := .tuple #[.agg #[.int .i64 0, .int .i64 0, .string ⟨#[]⟩, .string ⟨#[]⟩, .string ⟨#[]⟩, .int .i64 0], .bool false]) (ret_cell_tmp Tryd.results6 _ _ w.heap.size [.int .i64 0, .int .i64 0, .string ⟨#[]⟩, .string ⟨#[]⟩, .string ⟨#[]⟩, .int .i64 0] _ rfl hr9.out Tryd.underlying31 rfl cmd6Info) rfl (cmd_post_none (hKr.out.trans' hs9.out (fun i e => .inr (by omega))))
                by_cases h2 : kx = 2
                · subst h2
                  as_aux_lemma =>
                  replace eS : (X.toList == [115, 101, 116]) = false := eS
                  have nS : (X.toList != [115, 101, 116]) = true := by rw [bne, eS]; rfl
                  replace eD : (X.toList == [100, 101, 108, 101, 116, 101]) = true := eD
                  have nD : (X.toList != [100, 101, 108, 101, 116, 101]) = false := by rw [bne, eD]; rfl
                  replace eC : (X.toList == [99, 111, 109, 109, 105, 116, 45, 99, 111, 110, 102, 105, 114, 109, 101, 100]) = false := eC
                  have nC : (X.toList != [99, 111, 109, 109, 105, 116, 45, 99, 111, 110, 102, 105, 114, 109, 101, 100]) = true := by rw [bne, eC]; rfl
                  replace eR : (X.toList == [114, 111, 108, 108, 98, 97, 99, 107]) = false := eR
                  have nR : (X.toList != [114, 111, 108, 108, 98, 97, 99, 107]) = true := by rw [bne, eR]; rfl
                  have hx0 : xs = [] := Classical.byContradiction fun h => h12 ⟨.inr rfl, h⟩
                  subst hx0
                  obtain rfl : n = 1 := by simpa using hn3.symm
                  clear hlen h79 h12 hallr h7 h9 h1
                  go_wp2_with ((with_reducible refine at_store 2 ?_); refine wpList_store_blk rfl 31 (.tmp 2) (.tmp 132) rfl w.heap.size #[.int .i64 0, .int .i64 0, .string ⟨#[]⟩, .string ⟨#[]⟩, .string ⟨#[]⟩, .int .i64 0] rfl rfl (BlkAt.there (hBr.out) 0 6 (Nat.le_refl 6)) cmd6Info (cmd_one _ _ _ _ _ _) ?_; intro w9 hr9 hs9)
                  try rw [hFv]
                  refine bodyPost_ret (v := .tuple #[.agg #[.int .i64 0, .int .i64 0, .string ⟨#[]⟩, .string ⟨#[]⟩, .string ⟨#[]⟩, .int .i64 0], .bool false]) (ret_cell_tmp Tryd.results6 _ _ w.heap.size [.int .i64 0, .int .i64 0, .string ⟨#[]⟩, .string ⟨#[]⟩, .string ⟨#[]⟩, .int .i64 0] _ rfl hr9.out Tryd.underlying31 rfl cmd6Info) rfl (cmd_post_none (hKr.out.trans' hs9.out (fun i e => .inr (by omega))))
                as_aux_lemma =>
                replace eS : (X.toList == [115, 101, 116]) = false := by rw [eS]; exact decide_eq_false (by omega)
                have nS : (X.toList != [115, 101, 116]) = true := by rw [bne, eS]; rfl
                replace eD : (X.toList == [100, 101, 108, 101, 116, 101]) = false := by rw [eD]; exact decide_eq_false (by omega)
                have nD : (X.toList != [100, 101, 108, 101, 116, 101]) = true := by rw [bne, eD]; rfl
                replace eC : (X.toList == [99, 111, 109, 109, 105, 116, 45, 99, 111, 110, 102, 105, 114, 109, 101, 100]) = false := by rw [eC]; exact decide_eq_false (by omega)
                have nC : (X.toList != [99, 111, 109, 109, 105, 116, 45, 99, 111, 110, 102, 105, 114, 109, 101, 100]) = true := by rw [bne, eC]; rfl
                replace eR : (X.toList == [114, 111, 108, 108, 98, 97, 99, 107]) = false := by rw [eR]; exact decide_eq_false (by omega)
                have nR : (X.toList != [114, 111, 108, 108, 98, 97, 99, 107]) = true := by rw [bne, eR]; rfl
                clear hlen h79 h12 hallr h7 h9 h1 h2
                go_wp2_with ((with_reducible refine at_store 2 ?_); refine wpList_store_blk rfl 31 (.tmp 2) (.tmp 132) rfl w.heap.size #[.int .i64 0, .int .i64 0, .string ⟨#[]⟩, .string ⟨#[]⟩, .string ⟨#[]⟩, .int .i64 0] rfl rfl (BlkAt.there (hBr.out) 0 6 (Nat.le_refl 6)) cmd6Info (cmd_one _ _ _ _ _ _) ?_; intro w9 hr9 hs9)
                try rw [hFv]
                refine bodyPost_ret (v := .tuple #[.agg #[.int .i64 0, .int .i64 0, .string ⟨#[]⟩, .string ⟨#[]⟩, .string ⟨#[]⟩, .int .i64 0], .bool false]) (ret_cell_tmp Tryd.results6 _ _ w.heap.size [.int .i64 0, .int .i64 0, .string ⟨#[]⟩, .string ⟨#[]⟩, .string ⟨#[]⟩, .int .i64 0] _ rfl hr9.out Tryd.underlying31 rfl cmd6Info) rfl (cmd_post_none (hKr.out.trans' hs9.out (fun i e => .inr (by omega))))
              obtain ⟨h12, hx2⟩ := h12
              obtain ⟨y, ys, rfl⟩ := List.exists_cons_of_ne_nil hx2
              obtain ⟨m, hm⟩ : ∃ m, ys.length = m := ⟨_, rfl⟩
              obtain rfl : n = m + 2 := by rw [← hn3, ← hm]; rfl
              obtain ⟨Y, hY⟩ : ∃ Y : ByteArray, Y = ⟨y.toArray⟩ := ⟨_, rfl⟩
              have hYl : Hid (Y.data.toList = y) := Lib.hid (by rw [hY])
              have hY2 := Lib.hid hY; clear hY
              have hgw : Hid (g ≠ w.heap.size) := Lib.hid (fun e => by have h1 := hallr.out 0 (by simp); rw [e] at h1; exact blk_no_cell hBr.out h1)
              have hgl := World.block_lt_of_cell? _ _ cX
              have hc1 : ¬ c = 1 := by omega
              have hwl := lt_of_block hBr.out
              clear h79 hx2 hn3
              rcases h12 with rfl | rfl
              · skip
                as_aux_lemma =>
                replace eS : (X.toList == [115, 101, 116]) = true := eS
                have nS : (X.toList != [115, 101, 116]) = false := by rw [bne, eS]; rfl
                replace eD : (X.toList == [100, 101, 108, 101, 116, 101]) = false := eD
                have nD : (X.toList != [100, 101, 108, 101, 116, 101]) = true := by rw [bne, eD]; rfl
                replace eC : (X.toList == [99, 111, 109, 109, 105, 116, 45, 99, 111, 110, 102, 105, 114, 109, 101, 100]) = false := eC
                have nC : (X.toList != [99, 111, 109, 109, 105, 116, 45, 99, 111, 110, 102, 105, 114, 109, 101, 100]) = true := by rw [bne, eC]; rfl
                replace eR : (X.toList == [114, 111, 108, 108, 98, 97, 99, 107]) = false := eR
                have nR : (X.toList != [114, 111, 108, 108, 98, 97, 99, 107]) = true := by rw [bne, eR]; rfl
                have hFd : F = docSD 1 (y :: ys) := by rw [← hF'.out, hdoc.out, if_neg (by simp), if_neg (by simp), if_neg (by simp)]; rfl
                obtain ⟨b, hb⟩ : ∃ b, b = wr.heap.size := ⟨_, rfl⟩
                obtain ⟨W3, hW3⟩ : ∃ W3, W3 = wr.alloc (.cells #[.int .i64 1, .int .i64 0, .string ⟨#[]⟩, .string ⟨#[]⟩, .string ⟨#[]⟩, .int .i64 0] 31) := ⟨_, rfl⟩
                have hBl : Hid (BlkAt W3 b 31 [.int .i64 1, .int .i64 0, .string ⟨#[]⟩, .string ⟨#[]⟩, .string ⟨#[]⟩, .int .i64 0]) := Lib.hid (by rw [hW3, hb]; exact BlkAt.new wr 31 [.int .i64 1, .int .i64 0, .string ⟨#[]⟩, .string ⟨#[]⟩, .string ⟨#[]⟩, .int .i64 0])
                have k3 : Keeps (fun _ => False) wr W3 := by rw [hW3]; exact (Keeps.refl _ _).alloc _
                have hBR := Lib.hid (hBr.out.keep k3 id); have hKR := Lib.hid (hKr.out.trans k3)
                have hall3 := Lib.hid (fun j hj => k3.cell0 (hallr.out j hj))
                have cX2 := ((Keeps.refl (fun _ => False) wr).alloc (.cells #[.int .i64 1, .int .i64 0, .string ⟨#[]⟩, .string ⟨#[]⟩, .string ⟨#[]⟩, .int .i64 0] 31)).cell0 cX
                have hwb : w.heap.size < b := by omega
                have hgb : ¬ g = b := by simp only at hgl; omega
                have hW3' := Lib.hid hW3; have hb' := Lib.hid hb
                clear hW3 hb k3
                go_upto_region 27 with ((with_reducible refine at_store 14 ?_); refine wpList_store_new rfl 31 (.tmp 14) (.tmp 133) rfl _ #[.int .i64 1, .int .i64 0, .string ⟨#[]⟩, .string ⟨#[]⟩, .string ⟨#[]⟩, .int .i64 0] rfl rfl cmd6Info rfl (cmd_one _ _ _ _ _ _) ?_)
                rw [← hW3'.out, ← hb'.out]
                clear hW3' hb' cX2 cX hallr hBr hKr
                have cY3 : W3.cell? ⟨g, 1, none⟩ = some (.string Y) := by rw [hY2.out]; exact hall3.out 1 (by simp)
                obtain ⟨h, hh⟩ : ∃ h, headD Y.data.toList = h := ⟨_, rfl⟩
                have hh' := Lib.hid hh
                have hhy : headD y = h := by rw [← hYl.out]; exact hh
                go_wp2_with fail
                refine (rHead_any Y h _ hh').mono ?_
                rintro e w' ⟨rfl, rfl⟩
                clear cY3 hh hh'
                by_cases h0 : h = 0
                · subst h0
                  rw [doc1, if_pos hhy] at hFd
                  obtain ⟨R, hRe⟩ : ∃ R, R = y :: ys := ⟨_, rfl⟩
                  have hRl : R.length = m + 1 := by rw [hRe, ← hm]; rfl
                  have hRs : Hid (∀ z ∈ R, z.length ≤ 8796093022000) := by rw [hRe]; exact hxs
                  have hallW : Hid (∀ j (hj : j < R.length), W3.cell? ⟨g, 1 + j, none⟩ = some (.string ⟨(R[j]).toArray⟩)) := Lib.hid (fun j hj => by subst hRe; have := hall3.out (j + 1) (by simpa using hj); rw [Nat.add_comm 1 j]; exact this)
                  rw [← hRe] at hFd
                  clear hall3 hY2 hYl hhy hxs hm
                  by_cases hR : R.length = 2
                  rotate_left
                  · have hFv : F = none := by rw [hFd]; exact docin_set _ _ _ hR
                    rw [hRl] at hR
                    have g1 : (((m : Int) + 1 : Int) != 2) = true := by rw [bne_iff_ne]; omega
                    have g2 : (((m : Int) + 1 : Int) == 2) = false := by rw [beq_eq_false_iff_ne]; omega
                    clear hFd hallW
                    have c0 := hBl.out.cell 0 _ rfl
                    have c1 := hBl.out.cell 1 _ rfl
                    go_wp2_with ((with_reducible refine at_store 2 ?_); refine wpList_store_blk rfl 31 (.tmp 2) (.tmp 201) rfl w.heap.size #[.int .i64 0, .int .i64 0, .string ⟨#[]⟩, .string ⟨#[]⟩, .string ⟨#[]⟩, .int .i64 0] rfl rfl (BlkAt.there (hBR.out) 0 6 (Nat.le_refl 6)) cmd6Info (cmd_one _ _ _ _ _ _) ?_; intro w9 hr9 hs9)
                    try rw [hFv]
                    refine bodyPost_ret (v := .tuple #[.agg #[.int .i64 0, .int .i64 0, .string ⟨#[]⟩, .string ⟨#[]⟩, .string ⟨#[]⟩, .int .i64 0], .bool false]) (ret_cell_tmp Tryd.results6 _ _ w.heap.size [.int .i64 0, .int .i64 0, .string ⟨#[]⟩, .string ⟨#[]⟩, .string ⟨#[]⟩, .int .i64 0] _ rfl hr9.out Tryd.underlying31 rfl cmd6Info) rfl (cmd_post_none (hKR.out.trans' hs9.out (fun i e => .inr (by omega))))
                  obtain ⟨l, v, rfl⟩ : ∃ l v, R = [l, v] := by match R, hR with | [l, v], _ => exact ⟨l, v, rfl⟩
                  obtain ⟨L, hL⟩ : ∃ L : ByteArray, L = ⟨l.toArray⟩ := ⟨_, rfl⟩
                  have cL : W3.cell? ⟨g, 1, none⟩ = some (.string L) := by rw [hL]; exact hallW.out 0 (by simp)
                  obtain ⟨V, hV⟩ : ∃ V : ByteArray, V = ⟨v.toArray⟩ := ⟨_, rfl⟩
                  have cV : Hid (W3.cell? ⟨g, 2, none⟩ = some (.string V)) := Lib.hid (by rw [hV]; exact hallW.out 1 (by simp))
                  have hVs : V.size ≤ 8796093022000 := by rw [hV]; exact hRs.out v (by simp)
                  have hV' := Lib.hid hV; clear hV
                  have hL' := Lib.hid hL; clear hL
                  simp only [List.length_cons, List.length_nil] at hRl
                  obtain rfl : m = 1 := by omega
                  clear hRl hR
                  obtain ⟨W6, hW6⟩ : ∃ W6, W6 = W3.setCell ⟨b, 3, none⟩ (.string L) := ⟨_, rfl⟩
                  have k6 : Keeps (fun i => i = b) W3 W6 := by rw [hW6]; exact Keeps.setCell (F := fun i => i = b) (p := ⟨b, 3, none⟩) (Keeps.refl _ _) (.inl rfl) _
                  have hBl6 : Hid (BlkAt W6 b 31 [.int .i64 1, .int .i64 0, .string ⟨#[]⟩, .string L, .string ⟨#[]⟩, .int .i64 0]) := Lib.hid (by rw [hW6]; exact hBl.out.set 3 _)
                  have hBR6 := Lib.hid (hBR.out.keep k6 (by omega))
                  have hKR6 := Lib.hid (hKR.out.trans' k6 (fun i e => .inr (by omega)))
                  have cV6 : Hid (W6.cell? ⟨g, 2, none⟩ = some (.string V)) := Lib.hid (by rw [k6.cell (World.block_lt_of_cell? _ _ cV.out) hgb]; exact cV.out)
                  have hW6' := Lib.hid hW6
                  clear hW6 k6 hallW
                  have c0 := hBl.out.cell 0 _ rfl
                  have c1 := hBl.out.cell 1 _ rfl
                  have c3 := hBl.out.cell 3 _ rfl
                  have f3 := hBl.out.frozen 3
                  go_upto_region 39 with fail
                  rw [← hW6'.out]
                  clear hW6' c0 c1 c3 f3 cL hBl hBR hKR
                  have c1 := hBl6.out.cell 1 _ rfl
                  have c3 := hBl6.out.cell 3 _ rfl
                  cases hf : findD 0 l with
                  | none =>
                    have hFv : F = none := by rw [hFd, docin2, if_pos rfl, hf]
                    have hf' : Hid (findD 0 L.data.toList = none) := Lib.hid (by rw [hL'.out]; exact hf)
                    clear hf hFd
                    go_wp2_with fail
                    refine (rfind0 0 L _ hf').mono ?_
                    rintro e w7 ⟨rfl, k7⟩
                    have hB7 := Lib.hid ((hBR6.out.keep k7 id).alloc (.cells #[.int .i64 0, .string ⟨#[]⟩, .int .i64 0, .int .i64 0, .int .i64 0, .slice none 0 0, .string ⟨#[]⟩, .int .i64 0] 55)); have hK7 := Lib.hid ((hKR6.out.trans k7).alloc (.cells #[.int .i64 0, .string ⟨#[]⟩, .int .i64 0, .int .i64 0, .int .i64 0, .slice none 0 0, .string ⟨#[]⟩, .int .i64 0] 55)); clear k7 c1 c3
                    go_wp2_with (first | ((with_reducible refine at_store 17 ?_); refine wpList_store_new rfl 55 (.tmp 17) (.tmp 215) rfl _ #[.int .i64 0, .string ⟨#[]⟩, .int .i64 0, .int .i64 0, .int .i64 0, .slice none 0 0, .string ⟨#[]⟩, .int .i64 0] rfl rfl rowInfo4 rfl (row_one _ _ _ _ _ _ _ _ _ _) ?_) | ((with_reducible refine at_store 2 ?_); refine wpList_store_blk rfl 31 (.tmp 2) (.tmp 219) rfl w.heap.size #[.int .i64 0, .int .i64 0, .string ⟨#[]⟩, .string ⟨#[]⟩, .string ⟨#[]⟩, .int .i64 0] rfl rfl (BlkAt.there (hB7.out) 0 6 (Nat.le_refl 6)) cmd6Info (cmd_one _ _ _ _ _ _) ?_; intro w9 hr9 hs9))
                    try rw [hFv]
                    refine bodyPost_ret (v := .tuple #[.agg #[.int .i64 0, .int .i64 0, .string ⟨#[]⟩, .string ⟨#[]⟩, .string ⟨#[]⟩, .int .i64 0], .bool false]) (ret_cell_tmp Tryd.results6 _ _ w.heap.size [.int .i64 0, .int .i64 0, .string ⟨#[]⟩, .string ⟨#[]⟩, .string ⟨#[]⟩, .int .i64 0] _ rfl hr9.out Tryd.underlying31 rfl cmd6Info) rfl (cmd_post_none (hK7.out.trans' hs9.out (fun i e => .inr (by omega))))
                  | some q =>
                    have hf' : Hid (findD 0 L.data.toList = some q) := Lib.hid (by rw [hL'.out]; exact hf)
                    have hcl := rows_short q hf
                    rw [docin2, if_pos rfl, hf] at hFd
                    clear hf
                    obtain ⟨M, hM⟩ : ∃ M : ByteArray, M = ⟨q.name.toArray⟩ := ⟨_, rfl⟩
                    obtain ⟨D, hD⟩ : ∃ D : ByteArray, D = ⟨q.df.toArray⟩ := ⟨_, rfl⟩
                    have hM' := Lib.hid hM; have hD' := Lib.hid hD; have hFd' := Lib.hid hFd; clear hM hD hFd
                    go_wp2_with fail
                    refine (rfind1 0 L q M D _ hf' hM' hD').mono ?_
                    rintro e w7 ⟨p, cc, rfl, hst, hfr, k7⟩
                    clear c1 c3
                    obtain ⟨W8, hW8⟩ : ∃ W8, W8 = w7.alloc (.cells #[.int .i64 q.head, .string M, .int .i64 q.kind, .int .i64 q.lo, .int .i64 q.hi, .slice p q.cs.length cc, .string D, .int .i64 q.cl] 55) := ⟨_, rfl⟩
                    have k8 : Keeps (fun _ => False) w7 W8 := by rw [hW8]; exact (Keeps.refl _ _).alloc _
                    have k68 := k7.trans k8
                    have hBl8 := Lib.hid (hBl6.out.keep k68 id); have hBR8 := Lib.hid (hBR6.out.keep k68 id); have hK8 := Lib.hid (hKR6.out.trans k68)
                    have hBq : Hid (BlkAt W8 w7.heap.size 55 [.int .i64 q.head, .string M, .int .i64 q.kind, .int .i64 q.lo, .int .i64 q.hi, .slice p q.cs.length cc, .string D, .int .i64 q.cl]) := Lib.hid (by rw [hW8]; exact BlkAt.new w7 55 [.int .i64 q.head, .string M, .int .i64 q.kind, .int .i64 q.lo, .int .i64 q.hi, .slice p q.cs.length cc, .string D, .int .i64 q.cl])
                    have hst8 := Lib.hid (hst.keep k8 (fun _ _ _ f => f))
                    have hb7 : b < w7.heap.size := by have h1 := lt_of_block hBl6.out; have h2 := k7.size; omega
                    have cV8 := Lib.hid (k68.cell0 cV6.out)
                    have hW8' := Lib.hid hW8
                    have hfr' := Lib.hid hfr; have hb6 := Lib.hid (lt_of_block hBl6.out); clear hW8 k7 k8 k68 hBl6 hBR6 hKR6 hst hfr
                    go_upto_region 42 with ((with_reducible refine at_store 17 ?_); refine wpList_store_new rfl 55 (.tmp 17) (.tmp 215) rfl _ #[.int .i64 q.head, .string M, .int .i64 q.kind, .int .i64 q.lo, .int .i64 q.hi, .slice p q.cs.length cc, .string D, .int .i64 q.cl] rfl rfl rowInfo4 rfl (row_one _ _ _ _ _ _ _ _ _ _) ?_)
                    rw [← hW8'.out]
                    clear hW8'
                    have c0 := hBl8.out.cell 0 _ rfl
                    have cV := cV8.out
                    have c4 := hBl8.out.cell 4 _ rfl
                    have f4 := hBl8.out.frozen 4
                    obtain ⟨W9, hW9⟩ : ∃ W9, W9 = W8.setCell ⟨b, 4, none⟩ (.string V) := ⟨_, rfl⟩
                    have k9 : Keeps (fun i => i = b) W8 W9 := by rw [hW9]; exact Keeps.setCell (F := fun i => i = b) (p := ⟨b, 4, none⟩) (Keeps.refl _ _) (.inl rfl) _
                    have hBl9 : Hid (BlkAt W9 b 31 [.int .i64 1, .int .i64 0, .string ⟨#[]⟩, .string L, .string V, .int .i64 0]) := Lib.hid (by rw [hW9]; exact hBl8.out.set 4 _)
                    have hBR9 := Lib.hid (hBR8.out.keep k9 (by omega)); have hK9 := Lib.hid (hK8.out.trans' k9 (fun i e => .inr (by omega))); have hBq9 := Lib.hid (hBq.out.keep k9 (by omega))
                    have hst9 := Lib.hid (hst8.out.keep k9 (fun _ i e f => by have h1 := hfr'.out i e; have h2 := hb6.out; omega))
                    have cV9 : Hid (W9.cell? ⟨g, 2, none⟩ = some (.string V)) := Lib.hid (by rw [k9.cell (World.block_lt_of_cell? _ _ cV) hgb]; exact cV)
                    have hW9' := Lib.hid hW9
                    clear hW9 k9
                    go_upto_region 44 with fail
                    rw [← hW9'.out]
                    clear hW9' c0 c4 f4 cV cV8 hBl8 hBR8 hK8 hBq hst8
                    obtain ⟨r, hr⟩ : ∃ r, rightB q.kind q.lo q.hi q.cs V.data.toList = r := ⟨_, rfl⟩
                    have hr' := Lib.hid hr; clear hr
                    refine wp_region_noPanic ?_
                    refine wp_region_held_drew (S := (fun W => Keeps (fun i => i = w.heap.size) W9 W)) (by kernel_rfl) (((Keeps.refl _ _).drew)) (fun hHeld => ?_)
                    refine tkL 0 rfl (yieldsIf_load_mid (by rfl) 31 (.tmp 14) rfl b 0 rfl [.int .i64 1, .int .i64 0, .string ⟨#[]⟩, .string L, .string V, .int .i64 0] _ (fun _ s => (hBl9.out.keep s (by omega)).range) Tryd.underlying31 rfl cmd6Info) ?_
                    refine tkL 1 rfl (yieldsIf_load_mid (by rfl) 55 (.tmp 17) rfl w7.heap.size 0 rfl [.int .i64 q.head, .string M, .int .i64 q.kind, .int .i64 q.lo, .int .i64 q.hi, .slice p q.cs.length cc, .string D, .int .i64 q.cl] _ (fun _ s => (hBq9.out.keep s (by omega)).range) Tryd.underlying55 rfl rowInfo4) ?_
                    refine tk 2 rfl ?_
                    refine tk 3 rfl ?_
                    refine tkL 4 rfl (yieldsIf_load_cell (by rfl) 9 (.tmp 231) rfl g 2 rfl _ (fun _ s => by rw [s.cell (World.block_lt_of_cell? _ _ cV9.out) (fun e => hgw.out e)]; exact cV9.out) (fun w s => load_strp w _ _ _ s)) ?_
                    refine stepL 5 rfl (by kernel_rfl) (fun K hK => ?_)
                    go_simp
                    (refine (rRight_any q.head M D q.kind q.lo q.hi q.cl p cc q.cs V r _ hVs hcl (Lib.hid (hst9.out.keep ((Keeps.refl (fun _ => False) W9).drew) (fun _ _ _ f => f))) hr').mono ?_; rintro e w10 ⟨rfl, k10⟩; have hb10 := Lib.hid (hBR9.out.keep (((Keeps.refl (fun _ => False) W9).drew).trans k10) id); have k10' := Lib.hid k10; clear k10)
                    go_wp2_with fail
                    refine hK.out _ _ ((hHeld.trans' k10'.out (fun _ f => f.elim))) (fun hHeld => ?_)
                    clear hK K
                    try simp only [Act.put, sA, sZ, sS]
                    refine stepL 6 rfl (by kernel_rfl) (fun K hK => ?_)
                    rw [if_pos (by rfl)]
                    (refine wp_store_mid 31 (.tmp 2) (.tmp 228) rfl w.heap.size 0 #[.int .i64 1, .int .i64 0, .string ⟨#[]⟩, .string L, .string V, .int .i64 0] rfl rfl (hb10.out.there 0 6 (Nat.le_refl 6)) cmd6Info (cmd_one _ _ _ _ _ _) ?_; have hs9 : Keeps (fun i => i = w.heap.size) w10 (w10.setCells w.heap.size 0 [.int .i64 1, .int .i64 0, .string ⟨#[]⟩, .string L, .string V, .int .i64 0]) := Keeps.setCells (F := fun i => i = w.heap.size) (.inl rfl) _ _ _ (Keeps.refl _ _); have hr9 : (w10.setCells w.heap.size 0 [.int .i64 1, .int .i64 0, .string ⟨#[]⟩, .string L, .string V, .int .i64 0]).rangeAt w.heap.size 0 [.int .i64 1, .int .i64 0, .string ⟨#[]⟩, .string L, .string V, .int .i64 0] := World.rangeAt_setCells_same _ _ _ _ (hb10.out.there 0 6 (Nat.le_refl 6)); simp only [] at hs9 hr9 ⊢; generalize w10.setCells w.heap.size 0 [.int .i64 1, .int .i64 0, .string ⟨#[]⟩, .string L, .string V, .int .i64 0] = w11 at hs9 hr9 ⊢)
                    refine hK.out _ _ ((hHeld.trans' hs9 (fun i e => .inl e))) (fun hHeld => ?_)
                    clear hK K
                    try simp only [Act.put, sA, sZ, sS]
                    refine tk 7 rfl ?_
                    refine wpAnyH_done (by kernel_rfl) (NoPanic.normal ?_) _
                    have hs9 := Lib.hid hHeld; have hr9 := Lib.hid hr9; clear hHeld
                    go_wp2_with fail
                    have hR1 : rightB q.kind q.lo q.hi q.cs v = r := by rw [← hr'.out, hV'.out]
                    cases r with
                    | true =>
                      have hFv : F = some ⟨1, 0, [], l, v, 0⟩ := by rw [hFd'.out]; simp only [hR1, if_true]
                      try rw [hFv]
                      refine bodyPost_ret (v := .tuple #[.agg #[.int .i64 1, .int .i64 0, .string ⟨#[]⟩, .string L, .string V, .int .i64 0], .bool true]) (ret_cell_tmp Tryd.results6 _ _ w.heap.size [.int .i64 1, .int .i64 0, .string ⟨#[]⟩, .string L, .string V, .int .i64 0] _ rfl hr9.out Tryd.underlying31 rfl cmd6Info) rfl ⟨1, 0, ⟨#[]⟩, L, V, 0, rfl, hK9.out.trans' hs9.out (fun i e => .inr (by omega)), fun cc hcc => by injection hcc with hcc; subst hcc; exact ⟨rfl, rfl, rfl, by rw [hL'.out], by rw [hV'.out], rfl⟩⟩
                    | false =>
                      have hFv : F = none := by rw [hFd'.out]; simp [hR1]
                      try rw [hFv]
                      refine bodyPost_ret (v := .tuple #[.agg #[.int .i64 1, .int .i64 0, .string ⟨#[]⟩, .string L, .string V, .int .i64 0], .bool false]) (ret_cell_tmp Tryd.results6 _ _ w.heap.size [.int .i64 1, .int .i64 0, .string ⟨#[]⟩, .string L, .string V, .int .i64 0] _ rfl hr9.out Tryd.underlying31 rfl cmd6Info) rfl (cmd_post_none (hK9.out.trans' hs9.out (fun i e => .inr (by omega))))
                · have hgt : (0 : Int) < h := by have := headD_cases y; rw [hhy] at this; omega
                  rw [doc1, if_neg (by rw [hhy]; exact h0), hhy] at hFd
                  cases ys with
                  | nil =>
                    obtain rfl : m = 0 := by simpa using hm.symm
                    have hFv : F = none := hFd
                    clear hFd hall3 hxs h0
                    go_wp2_with ((with_reducible refine at_store 2 ?_); refine wpList_store_blk rfl 31 (.tmp 2) (.tmp 150) rfl w.heap.size #[.int .i64 0, .int .i64 0, .string ⟨#[]⟩, .string ⟨#[]⟩, .string ⟨#[]⟩, .int .i64 0] rfl rfl (BlkAt.there (hBR.out) 0 6 (Nat.le_refl 6)) cmd6Info (cmd_one _ _ _ _ _ _) ?_; intro w9 hr9 hs9)
                    try rw [hFv]
                    refine bodyPost_ret (v := .tuple #[.agg #[.int .i64 0, .int .i64 0, .string ⟨#[]⟩, .string ⟨#[]⟩, .string ⟨#[]⟩, .int .i64 0], .bool false]) (ret_cell_tmp Tryd.results6 _ _ w.heap.size [.int .i64 0, .int .i64 0, .string ⟨#[]⟩, .string ⟨#[]⟩, .string ⟨#[]⟩, .int .i64 0] _ rfl hr9.out Tryd.underlying31 rfl cmd6Info) rfl (cmd_post_none (hKR.out.trans' hs9.out (fun i e => .inr (by omega))))
                  | cons z zs =>
                    obtain ⟨k, hk⟩ : ∃ k, zs.length = k := ⟨_, rfl⟩
                    obtain rfl : m = k + 1 := by rw [← hm, ← hk]; rfl
                    obtain ⟨N, hN⟩ : ∃ N : ByteArray, N = ⟨z.toArray⟩ := ⟨_, rfl⟩
                    have cN : Hid (W3.cell? ⟨g, 2, none⟩ = some (.string N)) := Lib.hid (by rw [hN]; exact hall3.out 2 (by simp))
                    have hNs : N.size ≤ 8796093022000 := by rw [hN]; exact hxs.out z (by simp)
                    have hN' := Lib.hid hN
                    have hNl : N.data.toList = z := by rw [hN]
                    obtain ⟨qq, hqq⟩ : ∃ qq, (if c = 3 then some (⟨g, 1, none⟩ : Addr) else some ⟨g, 3, none⟩) = qq := ⟨_, rfl⟩
                    have hqq' := Lib.hid hqq
                    have hqq3 : 0 < k → qq = some ⟨g, 3, none⟩ := fun h => by rw [← hqq, if_neg (by omega)]
                    clear hN hY2 hYl hhy hm hqq
                    go_upto_region 31 with fail
                    have hk2 : (2 : Int) ≤ (k : Int) + 1 + 1 := by omega
                    have hk1 : (1 : Int) < (k : Int) + 1 + 1 := by omega
                    have kd : Keeps (fun _ => False) W3 W3.drew := (Keeps.refl _ _).drew
                    have hBd : BlkAt W3.drew b 31 [.int .i64 1, .int .i64 0, .string ⟨#[]⟩, .string ⟨#[]⟩, .string ⟨#[]⟩, .int .i64 0] := hBl.out.keep kd id
                    have cF1 := hBd.cell 1 _ rfl
                    have fF1 := hBd.frozen 1
                    have hBd1 : BlkAt (W3.setCell ⟨b, 1, none⟩ (.int .i64 h)).drew b 31 [.int .i64 1, .int .i64 h, .string ⟨#[]⟩, .string ⟨#[]⟩, .string ⟨#[]⟩, .int .i64 0] := (hBl.out.set 1 _).keep ((Keeps.refl (fun _ => False) _).drew) id
                    have cF2 := hBd1.cell 2 _ rfl
                    have fF2 := hBd1.frozen 2
                    have hBl4 : Hid (BlkAt (((W3.setCell ⟨b, 1, none⟩ (.int .i64 h)).setCell ⟨b, 2, none⟩ (.string N)).drew) b 31 [.int .i64 1, .int .i64 h, .string N, .string ⟨#[]⟩, .string ⟨#[]⟩, .int .i64 0]) := Lib.hid (((hBl.out.set 1 _).set 2 _).keep ((Keeps.refl (fun _ => False) _).drew) id)
                    clear hBd hBd1 kd
                    refine wp_region_noPanic ?_
                    refine wp_region_held_drew (S := (fun W => Keeps (fun i => i = b) W3 W)) (by kernel_rfl) (((Keeps.refl _ _).drew)) (fun hHeld => ?_)
                    refine tk 0 rfl ?_
                    refine tk 1 rfl ?_
                    refine tk 2 rfl ?_
                    refine tkL 3 rfl (yieldsIf_load_cell (by rfl) 9 (.tmp 153) rfl g 2 rfl _ (fun _ s => by rw [s.cell (World.block_lt_of_cell? _ _ cN.out) hgb]; exact cN.out) (fun w s => load_strp w _ _ _ s)) ?_
                    refine tk 4 rfl ?_
                    refine tk 5 rfl ?_
                    rw [hqq'.out]
                    refine tk 6 rfl ?_
                    refine tk 7 rfl ?_
                    refine stepL 8 rfl (by kernel_rfl) (fun K hK => ?_)
                    go_simp
                    refine hK.out _ _ ((((Keeps.refl (fun i => i = b) W3).setCell (p := ⟨b, 1, none⟩) (.inl rfl) _).drew)) (fun hHeld => ?_)
                    clear hK K
                    try simp only [Act.put, sA, sZ, sS]
                    refine tk 9 rfl ?_
                    refine tk 10 rfl ?_
                    refine stepL 11 rfl (by kernel_rfl) (fun K hK => ?_)
                    go_simp
                    refine hK.out _ _ ((((((Keeps.refl (fun i => i = b) W3).setCell (p := ⟨b, 1, none⟩) (.inl rfl) _).setCell (p := ⟨b, 2, none⟩) (.inl rfl) _).drew))) (fun hHeld => ?_)
                    clear hK K
                    try simp only [Act.put, sA, sZ, sS]
                    refine tk 12 rfl ?_
                    refine wpAnyH_done (by kernel_rfl) (NoPanic.normal ?_) _
                    clear cF1 fF1 cF2 fF2
                    generalize ((W3.setCell ⟨b, 1, none⟩ (.int .i64 h)).setCell ⟨b, 2, none⟩ (.string N)).drew = W4 at hHeld hBl4 ⊢
                    have hBR4 := Lib.hid (hBR.out.keep hHeld (by omega)); have hKR4 := Lib.hid (hKR.out.trans' hHeld (fun i e => .inr (by omega)))
                    have hall4 := Lib.hid (fun j (hj : j < (x :: y :: z :: zs).length) => (hHeld.cell (World.block_lt_of_cell? _ _ (hall3.out j hj)) hgb).trans (hall3.out j hj))
                    clear hHeld hBl hBR hKR cN
                    have c2 := hBl4.out.cell 2 _ rfl
                    have hFd0 := Lib.hid hFd
                    clear hFd
                    cases hnm : namedB h N.data.toList with
                    | false =>
                      have hnm' := Lib.hid hnm
                      have hFv : F = none := by rw [hFd0.out]; rw [hNl] at hnm; simp only [hnm]; rfl
                      clear hnm hFd0 hall3 hall4 hxs h0 hNl
                      go_wp2_with fail
                      refine (rNamed_any h N false _ hNs hnm').mono ?_
                      rintro e w5 ⟨rfl, k5⟩
                      have hBR5 := Lib.hid (hBR4.out.keep k5 id); have hKR5 := Lib.hid (hKR4.out.trans k5)
                      clear k5 c2
                      go_wp2_with ((with_reducible refine at_store 2 ?_); refine wpList_store_blk rfl 31 (.tmp 2) (.tmp 167) rfl w.heap.size #[.int .i64 0, .int .i64 0, .string ⟨#[]⟩, .string ⟨#[]⟩, .string ⟨#[]⟩, .int .i64 0] rfl rfl (BlkAt.there (hBR5.out) 0 6 (Nat.le_refl 6)) cmd6Info (cmd_one _ _ _ _ _ _) ?_; intro w9 hr9 hs9)
                      try rw [hFv]
                      refine bodyPost_ret (v := .tuple #[.agg #[.int .i64 0, .int .i64 0, .string ⟨#[]⟩, .string ⟨#[]⟩, .string ⟨#[]⟩, .int .i64 0], .bool false]) (ret_cell_tmp Tryd.results6 _ _ w.heap.size [.int .i64 0, .int .i64 0, .string ⟨#[]⟩, .string ⟨#[]⟩, .string ⟨#[]⟩, .int .i64 0] _ rfl hr9.out Tryd.underlying31 rfl cmd6Info) rfl (cmd_post_none (hKR5.out.trans' hs9.out (fun i e => .inr (by omega))))
                    | true =>
                      have hnm' := Lib.hid hnm
                      rw [hNl] at hnm
                      have hFd := hFd0.out
                      clear hFd0
                      simp only [hnm, if_true] at hFd
                      have hFd0 := Lib.hid hFd
                      clear hnm hNl h0 hFd
                      go_wp2_with fail
                      refine (rNamed_any h N true _ hNs hnm').mono ?_
                      rintro e W5 ⟨rfl, k5⟩
                      have hBR := Lib.hid (hBR4.out.keep k5 id); have hKR := Lib.hid (hKR4.out.trans k5); have hBl := Lib.hid (hBl4.out.keep k5 id)
                      have hall5 := Lib.hid (fun j hj => k5.cell0 (hall4.out j hj))
                      clear k5 c2 hBR4 hKR4 hBl4 hall3 hall4
                      have hFd := hFd0.out
                      clear hFd0
                      obtain ⟨R, hRe⟩ : ∃ R, R = zs := ⟨_, rfl⟩
                      have hRl : R.length = k := by rw [hRe, ← hk]
                      have hRs : Hid (∀ z ∈ R, z.length ≤ 8796093022000) := Lib.hid (fun z0 hz0 => hxs.out z0 (by rw [hRe] at hz0; simp [hz0]))
                      have hallW : Hid (∀ j (hj : j < R.length), W5.cell? ⟨g, 3 + j, none⟩ = some (.string ⟨(R[j]).toArray⟩)) := Lib.hid (fun j hj => by subst hRe; have := hall5.out (j + 3) (by simpa using hj); rw [Nat.add_comm 3 j]; exact this)
                      replace hFd : F = docSD.docIn 1 h z zs := by rw [hFd, if_neg (fun e => absurd e.1 (by decide))]
                      rw [← hRe] at hFd
                      have hkp : ¬ k = 0 → qq = some ⟨g, 3, none⟩ := fun e => hqq3 (by omega)
                      clear hall5 hxs hk hqq3 hRe
                      by_cases hR : R.length = 2
                      rotate_left
                      · have hFv : F = none := by rw [hFd]; exact docin_set _ _ _ hR
                        rw [hRl] at hR
                        have g1 : (((k : Int) : Int) != 2) = true := by rw [bne_iff_ne]; omega
                        have g2 : (((k : Int) : Int) == 2) = false := by rw [beq_eq_false_iff_ne]; omega
                        clear hFd hallW
                        have c0 := hBl.out.cell 0 _ rfl
                        have c1 := hBl.out.cell 1 _ rfl
                        go_wp2_with ((with_reducible refine at_store 2 ?_); refine wpList_store_blk rfl 31 (.tmp 2) (.tmp 201) rfl w.heap.size #[.int .i64 0, .int .i64 0, .string ⟨#[]⟩, .string ⟨#[]⟩, .string ⟨#[]⟩, .int .i64 0] rfl rfl (BlkAt.there (hBR.out) 0 6 (Nat.le_refl 6)) cmd6Info (cmd_one _ _ _ _ _ _) ?_; intro w9 hr9 hs9)
                        try rw [hFv]
                        refine bodyPost_ret (v := .tuple #[.agg #[.int .i64 0, .int .i64 0, .string ⟨#[]⟩, .string ⟨#[]⟩, .string ⟨#[]⟩, .int .i64 0], .bool false]) (ret_cell_tmp Tryd.results6 _ _ w.heap.size [.int .i64 0, .int .i64 0, .string ⟨#[]⟩, .string ⟨#[]⟩, .string ⟨#[]⟩, .int .i64 0] _ rfl hr9.out Tryd.underlying31 rfl cmd6Info) rfl (cmd_post_none (hKR.out.trans' hs9.out (fun i e => .inr (by omega))))
                      obtain ⟨l, v, rfl⟩ : ∃ l v, R = [l, v] := by match R, hR with | [l, v], _ => exact ⟨l, v, rfl⟩
                      obtain ⟨L, hL⟩ : ∃ L : ByteArray, L = ⟨l.toArray⟩ := ⟨_, rfl⟩
                      have cL : W5.cell? ⟨g, 3, none⟩ = some (.string L) := by rw [hL]; exact hallW.out 0 (by simp)
                      obtain ⟨V, hV⟩ : ∃ V : ByteArray, V = ⟨v.toArray⟩ := ⟨_, rfl⟩
                      have cV : Hid (W5.cell? ⟨g, 4, none⟩ = some (.string V)) := Lib.hid (by rw [hV]; exact hallW.out 1 (by simp))
                      have hVs : V.size ≤ 8796093022000 := by rw [hV]; exact hRs.out v (by simp)
                      have hV' := Lib.hid hV; clear hV
                      have hL' := Lib.hid hL; clear hL
                      simp only [List.length_cons, List.length_nil] at hRl
                      obtain rfl : k = 2 := by omega
                      clear hRl hR
                      obtain rfl : qq = some ⟨g, 3, none⟩ := hkp (by decide)
                      obtain ⟨W6, hW6⟩ : ∃ W6, W6 = W5.setCell ⟨b, 3, none⟩ (.string L) := ⟨_, rfl⟩
                      have k6 : Keeps (fun i => i = b) W5 W6 := by rw [hW6]; exact Keeps.setCell (F := fun i => i = b) (p := ⟨b, 3, none⟩) (Keeps.refl _ _) (.inl rfl) _
                      have hBl6 : Hid (BlkAt W6 b 31 [.int .i64 1, .int .i64 h, .string N, .string L, .string ⟨#[]⟩, .int .i64 0]) := Lib.hid (by rw [hW6]; exact hBl.out.set 3 _)
                      have hBR6 := Lib.hid (hBR.out.keep k6 (by omega))
                      have hKR6 := Lib.hid (hKR.out.trans' k6 (fun i e => .inr (by omega)))
                      have cV6 : Hid (W6.cell? ⟨g, 4, none⟩ = some (.string V)) := Lib.hid (by rw [k6.cell (World.block_lt_of_cell? _ _ cV.out) hgb]; exact cV.out)
                      have hW6' := Lib.hid hW6
                      clear hW6 k6 hallW
                      have c0 := hBl.out.cell 0 _ rfl
                      have c1 := hBl.out.cell 1 _ rfl
                      have c3 := hBl.out.cell 3 _ rfl
                      have f3 := hBl.out.frozen 3
                      go_upto_region 39 with fail
                      rw [← hW6'.out]
                      clear hW6' c0 c1 c3 f3 cL hBl hBR hKR
                      have c1 := hBl6.out.cell 1 _ rfl
                      have c3 := hBl6.out.cell 3 _ rfl
                      cases hf : findD h l with
                      | none =>
                        have hFv : F = none := by rw [hFd, docin2, if_pos rfl, hf]
                        have hf' : Hid (findD h L.data.toList = none) := Lib.hid (by rw [hL'.out]; exact hf)
                        clear hf hFd
                        go_wp2_with fail
                        refine (rfind0 h L _ hf').mono ?_
                        rintro e w7 ⟨rfl, k7⟩
                        have hB7 := Lib.hid ((hBR6.out.keep k7 id).alloc (.cells #[.int .i64 0, .string ⟨#[]⟩, .int .i64 0, .int .i64 0, .int .i64 0, .slice none 0 0, .string ⟨#[]⟩, .int .i64 0] 55)); have hK7 := Lib.hid ((hKR6.out.trans k7).alloc (.cells #[.int .i64 0, .string ⟨#[]⟩, .int .i64 0, .int .i64 0, .int .i64 0, .slice none 0 0, .string ⟨#[]⟩, .int .i64 0] 55)); clear k7 c1 c3
                        go_wp2_with (first | ((with_reducible refine at_store 17 ?_); refine wpList_store_new rfl 55 (.tmp 17) (.tmp 215) rfl _ #[.int .i64 0, .string ⟨#[]⟩, .int .i64 0, .int .i64 0, .int .i64 0, .slice none 0 0, .string ⟨#[]⟩, .int .i64 0] rfl rfl rowInfo4 rfl (row_one _ _ _ _ _ _ _ _ _ _) ?_) | ((with_reducible refine at_store 2 ?_); refine wpList_store_blk rfl 31 (.tmp 2) (.tmp 219) rfl w.heap.size #[.int .i64 0, .int .i64 0, .string ⟨#[]⟩, .string ⟨#[]⟩, .string ⟨#[]⟩, .int .i64 0] rfl rfl (BlkAt.there (hB7.out) 0 6 (Nat.le_refl 6)) cmd6Info (cmd_one _ _ _ _ _ _) ?_; intro w9 hr9 hs9))
                        try rw [hFv]
                        refine bodyPost_ret (v := .tuple #[.agg #[.int .i64 0, .int .i64 0, .string ⟨#[]⟩, .string ⟨#[]⟩, .string ⟨#[]⟩, .int .i64 0], .bool false]) (ret_cell_tmp Tryd.results6 _ _ w.heap.size [.int .i64 0, .int .i64 0, .string ⟨#[]⟩, .string ⟨#[]⟩, .string ⟨#[]⟩, .int .i64 0] _ rfl hr9.out Tryd.underlying31 rfl cmd6Info) rfl (cmd_post_none (hK7.out.trans' hs9.out (fun i e => .inr (by omega))))
                      | some q =>
                        have hf' : Hid (findD h L.data.toList = some q) := Lib.hid (by rw [hL'.out]; exact hf)
                        have hcl := rows_short q hf
                        rw [docin2, if_pos rfl, hf] at hFd
                        clear hf
                        obtain ⟨M, hM⟩ : ∃ M : ByteArray, M = ⟨q.name.toArray⟩ := ⟨_, rfl⟩
                        obtain ⟨D, hD⟩ : ∃ D : ByteArray, D = ⟨q.df.toArray⟩ := ⟨_, rfl⟩
                        have hM' := Lib.hid hM; have hD' := Lib.hid hD; have hFd' := Lib.hid hFd; clear hM hD hFd
                        go_wp2_with fail
                        refine (rfind1 h L q M D _ hf' hM' hD').mono ?_
                        rintro e w7 ⟨p, cc, rfl, hst, hfr, k7⟩
                        clear c1 c3
                        obtain ⟨W8, hW8⟩ : ∃ W8, W8 = w7.alloc (.cells #[.int .i64 q.head, .string M, .int .i64 q.kind, .int .i64 q.lo, .int .i64 q.hi, .slice p q.cs.length cc, .string D, .int .i64 q.cl] 55) := ⟨_, rfl⟩
                        have k8 : Keeps (fun _ => False) w7 W8 := by rw [hW8]; exact (Keeps.refl _ _).alloc _
                        have k68 := k7.trans k8
                        have hBl8 := Lib.hid (hBl6.out.keep k68 id); have hBR8 := Lib.hid (hBR6.out.keep k68 id); have hK8 := Lib.hid (hKR6.out.trans k68)
                        have hBq : Hid (BlkAt W8 w7.heap.size 55 [.int .i64 q.head, .string M, .int .i64 q.kind, .int .i64 q.lo, .int .i64 q.hi, .slice p q.cs.length cc, .string D, .int .i64 q.cl]) := Lib.hid (by rw [hW8]; exact BlkAt.new w7 55 [.int .i64 q.head, .string M, .int .i64 q.kind, .int .i64 q.lo, .int .i64 q.hi, .slice p q.cs.length cc, .string D, .int .i64 q.cl])
                        have hst8 := Lib.hid (hst.keep k8 (fun _ _ _ f => f))
                        have hb7 : b < w7.heap.size := by have h1 := lt_of_block hBl6.out; have h2 := k7.size; omega
                        have cV8 := Lib.hid (k68.cell0 cV6.out)
                        have hW8' := Lib.hid hW8
                        have hfr' := Lib.hid hfr; have hb6 := Lib.hid (lt_of_block hBl6.out); clear hW8 k7 k8 k68 hBl6 hBR6 hKR6 hst hfr
                        go_upto_region 42 with ((with_reducible refine at_store 17 ?_); refine wpList_store_new rfl 55 (.tmp 17) (.tmp 215) rfl _ #[.int .i64 q.head, .string M, .int .i64 q.kind, .int .i64 q.lo, .int .i64 q.hi, .slice p q.cs.length cc, .string D, .int .i64 q.cl] rfl rfl rowInfo4 rfl (row_one _ _ _ _ _ _ _ _ _ _) ?_)
                        rw [← hW8'.out]
                        clear hW8'
                        have c0 := hBl8.out.cell 0 _ rfl
                        have cV := cV8.out
                        have c4 := hBl8.out.cell 4 _ rfl
                        have f4 := hBl8.out.frozen 4
                        obtain ⟨W9, hW9⟩ : ∃ W9, W9 = W8.setCell ⟨b, 4, none⟩ (.string V) := ⟨_, rfl⟩
                        have k9 : Keeps (fun i => i = b) W8 W9 := by rw [hW9]; exact Keeps.setCell (F := fun i => i = b) (p := ⟨b, 4, none⟩) (Keeps.refl _ _) (.inl rfl) _
                        have hBl9 : Hid (BlkAt W9 b 31 [.int .i64 1, .int .i64 h, .string N, .string L, .string V, .int .i64 0]) := Lib.hid (by rw [hW9]; exact hBl8.out.set 4 _)
                        have hBR9 := Lib.hid (hBR8.out.keep k9 (by omega)); have hK9 := Lib.hid (hK8.out.trans' k9 (fun i e => .inr (by omega))); have hBq9 := Lib.hid (hBq.out.keep k9 (by omega))
                        have hst9 := Lib.hid (hst8.out.keep k9 (fun _ i e f => by have h1 := hfr'.out i e; have h2 := hb6.out; omega))
                        have cV9 : Hid (W9.cell? ⟨g, 4, none⟩ = some (.string V)) := Lib.hid (by rw [k9.cell (World.block_lt_of_cell? _ _ cV) hgb]; exact cV)
                        have hW9' := Lib.hid hW9
                        clear hW9 k9
                        go_upto_region 44 with fail
                        rw [← hW9'.out]
                        clear hW9' c0 c4 f4 cV cV8 hBl8 hBR8 hK8 hBq hst8
                        obtain ⟨r, hr⟩ : ∃ r, rightB q.kind q.lo q.hi q.cs V.data.toList = r := ⟨_, rfl⟩
                        have hr' := Lib.hid hr; clear hr
                        refine wp_region_noPanic ?_
                        refine wp_region_held_drew (S := (fun W => Keeps (fun i => i = w.heap.size) W9 W)) (by kernel_rfl) (((Keeps.refl _ _).drew)) (fun hHeld => ?_)
                        refine tkL 0 rfl (yieldsIf_load_mid (by rfl) 31 (.tmp 14) rfl b 0 rfl [.int .i64 1, .int .i64 h, .string N, .string L, .string V, .int .i64 0] _ (fun _ s => (hBl9.out.keep s (by omega)).range) Tryd.underlying31 rfl cmd6Info) ?_
                        refine tkL 1 rfl (yieldsIf_load_mid (by rfl) 55 (.tmp 17) rfl w7.heap.size 0 rfl [.int .i64 q.head, .string M, .int .i64 q.kind, .int .i64 q.lo, .int .i64 q.hi, .slice p q.cs.length cc, .string D, .int .i64 q.cl] _ (fun _ s => (hBq9.out.keep s (by omega)).range) Tryd.underlying55 rfl rowInfo4) ?_
                        refine tk 2 rfl ?_
                        refine tk 3 rfl ?_
                        refine tkL 4 rfl (yieldsIf_load_cell (by rfl) 9 (.tmp 231) rfl g 4 rfl _ (fun _ s => by rw [s.cell (World.block_lt_of_cell? _ _ cV9.out) (fun e => hgw.out e)]; exact cV9.out) (fun w s => load_strp w _ _ _ s)) ?_
                        refine stepL 5 rfl (by kernel_rfl) (fun K hK => ?_)
                        go_simp
                        (refine (rRight_any q.head M D q.kind q.lo q.hi q.cl p cc q.cs V r _ hVs hcl (Lib.hid (hst9.out.keep ((Keeps.refl (fun _ => False) W9).drew) (fun _ _ _ f => f))) hr').mono ?_; rintro e w10 ⟨rfl, k10⟩; have hb10 := Lib.hid (hBR9.out.keep (((Keeps.refl (fun _ => False) W9).drew).trans k10) id); have k10' := Lib.hid k10; clear k10)
                        go_wp2_with fail
                        refine hK.out _ _ ((hHeld.trans' k10'.out (fun _ f => f.elim))) (fun hHeld => ?_)
                        clear hK K
                        try simp only [Act.put, sA, sZ, sS]
                        refine stepL 6 rfl (by kernel_rfl) (fun K hK => ?_)
                        rw [if_pos (by rfl)]
                        (refine wp_store_mid 31 (.tmp 2) (.tmp 228) rfl w.heap.size 0 #[.int .i64 1, .int .i64 h, .string N, .string L, .string V, .int .i64 0] rfl rfl (hb10.out.there 0 6 (Nat.le_refl 6)) cmd6Info (cmd_one _ _ _ _ _ _) ?_; have hs9 : Keeps (fun i => i = w.heap.size) w10 (w10.setCells w.heap.size 0 [.int .i64 1, .int .i64 h, .string N, .string L, .string V, .int .i64 0]) := Keeps.setCells (F := fun i => i = w.heap.size) (.inl rfl) _ _ _ (Keeps.refl _ _); have hr9 : (w10.setCells w.heap.size 0 [.int .i64 1, .int .i64 h, .string N, .string L, .string V, .int .i64 0]).rangeAt w.heap.size 0 [.int .i64 1, .int .i64 h, .string N, .string L, .string V, .int .i64 0] := World.rangeAt_setCells_same _ _ _ _ (hb10.out.there 0 6 (Nat.le_refl 6)); simp only [] at hs9 hr9 ⊢; generalize w10.setCells w.heap.size 0 [.int .i64 1, .int .i64 h, .string N, .string L, .string V, .int .i64 0] = w11 at hs9 hr9 ⊢)
                        refine hK.out _ _ ((hHeld.trans' hs9 (fun i e => .inl e))) (fun hHeld => ?_)
                        clear hK K
                        try simp only [Act.put, sA, sZ, sS]
                        refine tk 7 rfl ?_
                        refine wpAnyH_done (by kernel_rfl) (NoPanic.normal ?_) _
                        have hs9 := Lib.hid hHeld; have hr9 := Lib.hid hr9; clear hHeld
                        go_wp2_with fail
                        have hR1 : rightB q.kind q.lo q.hi q.cs v = r := by rw [← hr'.out, hV'.out]
                        cases r with
                        | true =>
                          have hFv : F = some ⟨1, h, z, l, v, 0⟩ := by rw [hFd'.out]; simp only [hR1, if_true]
                          try rw [hFv]
                          refine bodyPost_ret (v := .tuple #[.agg #[.int .i64 1, .int .i64 h, .string N, .string L, .string V, .int .i64 0], .bool true]) (ret_cell_tmp Tryd.results6 _ _ w.heap.size [.int .i64 1, .int .i64 h, .string N, .string L, .string V, .int .i64 0] _ rfl hr9.out Tryd.underlying31 rfl cmd6Info) rfl ⟨1, h, N, L, V, 0, rfl, hK9.out.trans' hs9.out (fun i e => .inr (by omega)), fun cc hcc => by injection hcc with hcc; subst hcc; exact ⟨rfl, rfl, by rw [hN'.out], by rw [hL'.out], by rw [hV'.out], rfl⟩⟩
                        | false =>
                          have hFv : F = none := by rw [hFd'.out]; simp [hR1]
                          try rw [hFv]
                          refine bodyPost_ret (v := .tuple #[.agg #[.int .i64 1, .int .i64 h, .string N, .string L, .string V, .int .i64 0], .bool false]) (ret_cell_tmp Tryd.results6 _ _ w.heap.size [.int .i64 1, .int .i64 h, .string N, .string L, .string V, .int .i64 0] _ rfl hr9.out Tryd.underlying31 rfl cmd6Info) rfl (cmd_post_none (hK9.out.trans' hs9.out (fun i e => .inr (by omega))))
              · skip
                as_aux_lemma =>
                replace eS : (X.toList == [115, 101, 116]) = false := eS
                have nS : (X.toList != [115, 101, 116]) = true := by rw [bne, eS]; rfl
                replace eD : (X.toList == [100, 101, 108, 101, 116, 101]) = true := eD
                have nD : (X.toList != [100, 101, 108, 101, 116, 101]) = false := by rw [bne, eD]; rfl
                replace eC : (X.toList == [99, 111, 109, 109, 105, 116, 45, 99, 111, 110, 102, 105, 114, 109, 101, 100]) = false := eC
                have nC : (X.toList != [99, 111, 109, 109, 105, 116, 45, 99, 111, 110, 102, 105, 114, 109, 101, 100]) = true := by rw [bne, eC]; rfl
                replace eR : (X.toList == [114, 111, 108, 108, 98, 97, 99, 107]) = false := eR
                have nR : (X.toList != [114, 111, 108, 108, 98, 97, 99, 107]) = true := by rw [bne, eR]; rfl
                have hFd : F = docSD 2 (y :: ys) := by rw [← hF'.out, hdoc.out, if_neg (by simp), if_neg (by simp), if_neg (by simp)]; rfl
                obtain ⟨b, hb⟩ : ∃ b, b = wr.heap.size := ⟨_, rfl⟩
                obtain ⟨W3, hW3⟩ : ∃ W3, W3 = wr.alloc (.cells #[.int .i64 2, .int .i64 0, .string ⟨#[]⟩, .string ⟨#[]⟩, .string ⟨#[]⟩, .int .i64 0] 31) := ⟨_, rfl⟩
                have hBl : Hid (BlkAt W3 b 31 [.int .i64 2, .int .i64 0, .string ⟨#[]⟩, .string ⟨#[]⟩, .string ⟨#[]⟩, .int .i64 0]) := Lib.hid (by rw [hW3, hb]; exact BlkAt.new wr 31 [.int .i64 2, .int .i64 0, .string ⟨#[]⟩, .string ⟨#[]⟩, .string ⟨#[]⟩, .int .i64 0])
                have k3 : Keeps (fun _ => False) wr W3 := by rw [hW3]; exact (Keeps.refl _ _).alloc _
                have hBR := Lib.hid (hBr.out.keep k3 id); have hKR := Lib.hid (hKr.out.trans k3)
                have hall3 := Lib.hid (fun j hj => k3.cell0 (hallr.out j hj))
                have cX2 := ((Keeps.refl (fun _ => False) wr).alloc (.cells #[.int .i64 1, .int .i64 0, .string ⟨#[]⟩, .string ⟨#[]⟩, .string ⟨#[]⟩, .int .i64 0] 31)).cell0 cX
                have hwb : w.heap.size < b := by omega
                have hgb : ¬ g = b := by simp only at hgl; omega
                have cF := (BlkAt.new wr 31 [.int .i64 1, .int .i64 0, .string ⟨#[]⟩, .string ⟨#[]⟩, .string ⟨#[]⟩, .int .i64 0]).cell 0 _ rfl
                have fF := (BlkAt.new wr 31 [.int .i64 1, .int .i64 0, .string ⟨#[]⟩, .string ⟨#[]⟩, .string ⟨#[]⟩, .int .i64 0]).frozen 0
                have hW3' := Lib.hid hW3; have hb' := Lib.hid hb
                clear hW3 hb k3
                go_upto_region 27 with ((with_reducible refine at_store 14 ?_); refine wpList_store_new rfl 31 (.tmp 14) (.tmp 133) rfl _ #[.int .i64 1, .int .i64 0, .string ⟨#[]⟩, .string ⟨#[]⟩, .string ⟨#[]⟩, .int .i64 0] rfl rfl cmd6Info rfl (cmd_one _ _ _ _ _ _) ?_)
                rw [← hW3'.out, ← hb'.out]
                clear hW3' hb' cX2 cX hallr hBr hKr cF fF
                have cY3 : W3.cell? ⟨g, 1, none⟩ = some (.string Y) := by rw [hY2.out]; exact hall3.out 1 (by simp)
                obtain ⟨h, hh⟩ : ∃ h, headD Y.data.toList = h := ⟨_, rfl⟩
                have hh' := Lib.hid hh
                have hhy : headD y = h := by rw [← hYl.out]; exact hh
                go_wp2_with fail
                refine (rHead_any Y h _ hh').mono ?_
                rintro e w' ⟨rfl, rfl⟩
                clear cY3 hh hh'
                by_cases h0 : h = 0
                · subst h0
                  rw [doc1, if_pos hhy] at hFd
                  obtain ⟨R, hRe⟩ : ∃ R, R = y :: ys := ⟨_, rfl⟩
                  have hRl : R.length = m + 1 := by rw [hRe, ← hm]; rfl
                  have hRs : Hid (∀ z ∈ R, z.length ≤ 8796093022000) := by rw [hRe]; exact hxs
                  have hallW : Hid (∀ j (hj : j < R.length), W3.cell? ⟨g, 1 + j, none⟩ = some (.string ⟨(R[j]).toArray⟩)) := Lib.hid (fun j hj => by subst hRe; have := hall3.out (j + 1) (by simpa using hj); rw [Nat.add_comm 1 j]; exact this)
                  rw [← hRe] at hFd
                  clear hall3 hY2 hYl hhy hxs hm
                  by_cases hR : R.length = 1
                  rotate_left
                  · have hFv : F = none := by rw [hFd]; exact docin_del _ _ _ hR
                    rw [hRl] at hR
                    have g1 : (((m : Int) + 1 : Int) != 1) = true := by rw [bne_iff_ne]; omega
                    have g2 : (((m : Int) + 1 : Int) == 1) = false := by rw [beq_eq_false_iff_ne]; omega
                    have g3 : (((m : Int) + 1 : Int) == 0) = false := by rw [beq_eq_false_iff_ne]; omega
                    clear hFd hallW
                    have c0 := hBl.out.cell 0 _ rfl
                    have c1 := hBl.out.cell 1 _ rfl
                    go_wp2_with ((with_reducible refine at_store 2 ?_); refine wpList_store_blk rfl 31 (.tmp 2) (.tmp 201) rfl w.heap.size #[.int .i64 0, .int .i64 0, .string ⟨#[]⟩, .string ⟨#[]⟩, .string ⟨#[]⟩, .int .i64 0] rfl rfl (BlkAt.there (hBR.out) 0 6 (Nat.le_refl 6)) cmd6Info (cmd_one _ _ _ _ _ _) ?_; intro w9 hr9 hs9)
                    try rw [hFv]
                    refine bodyPost_ret (v := .tuple #[.agg #[.int .i64 0, .int .i64 0, .string ⟨#[]⟩, .string ⟨#[]⟩, .string ⟨#[]⟩, .int .i64 0], .bool false]) (ret_cell_tmp Tryd.results6 _ _ w.heap.size [.int .i64 0, .int .i64 0, .string ⟨#[]⟩, .string ⟨#[]⟩, .string ⟨#[]⟩, .int .i64 0] _ rfl hr9.out Tryd.underlying31 rfl cmd6Info) rfl (cmd_post_none (hKR.out.trans' hs9.out (fun i e => .inr (by omega))))
                  obtain ⟨l, rfl⟩ : ∃ l, R = [l] := List.length_eq_one_iff.1 hR
                  obtain ⟨L, hL⟩ : ∃ L : ByteArray, L = ⟨l.toArray⟩ := ⟨_, rfl⟩
                  have cL : W3.cell? ⟨g, 1, none⟩ = some (.string L) := by rw [hL]; exact hallW.out 0 (by simp)
                  have hL' := Lib.hid hL; clear hL
                  simp only [List.length_cons, List.length_nil] at hRl
                  obtain rfl : m = 0 := by omega
                  clear hRl hR
                  obtain ⟨W6, hW6⟩ : ∃ W6, W6 = W3.setCell ⟨b, 3, none⟩ (.string L) := ⟨_, rfl⟩
                  have k6 : Keeps (fun i => i = b) W3 W6 := by rw [hW6]; exact Keeps.setCell (F := fun i => i = b) (p := ⟨b, 3, none⟩) (Keeps.refl _ _) (.inl rfl) _
                  have hBl6 : Hid (BlkAt W6 b 31 [.int .i64 2, .int .i64 0, .string ⟨#[]⟩, .string L, .string ⟨#[]⟩, .int .i64 0]) := Lib.hid (by rw [hW6]; exact hBl.out.set 3 _)
                  have hBR6 := Lib.hid (hBR.out.keep k6 (by omega))
                  have hKR6 := Lib.hid (hKR.out.trans' k6 (fun i e => .inr (by omega)))
                  have hW6' := Lib.hid hW6
                  clear hW6 k6 hallW
                  have c0 := hBl.out.cell 0 _ rfl
                  have c1 := hBl.out.cell 1 _ rfl
                  have c3 := hBl.out.cell 3 _ rfl
                  have f3 := hBl.out.frozen 3
                  go_upto_region 39 with fail
                  rw [← hW6'.out]
                  clear hW6' c0 c1 c3 f3 cL hBl hBR hKR
                  have c1 := hBl6.out.cell 1 _ rfl
                  have c3 := hBl6.out.cell 3 _ rfl
                  cases hf : findD 0 l with
                  | none =>
                    have hFv : F = none := by rw [hFd, docin1, if_pos rfl, hf]; rfl
                    have hf' : Hid (findD 0 L.data.toList = none) := Lib.hid (by rw [hL'.out]; exact hf)
                    clear hf hFd
                    go_wp2_with fail
                    refine (rfind0 0 L _ hf').mono ?_
                    rintro e w7 ⟨rfl, k7⟩
                    have hB7 := Lib.hid ((hBR6.out.keep k7 id).alloc (.cells #[.int .i64 0, .string ⟨#[]⟩, .int .i64 0, .int .i64 0, .int .i64 0, .slice none 0 0, .string ⟨#[]⟩, .int .i64 0] 55)); have hK7 := Lib.hid ((hKR6.out.trans k7).alloc (.cells #[.int .i64 0, .string ⟨#[]⟩, .int .i64 0, .int .i64 0, .int .i64 0, .slice none 0 0, .string ⟨#[]⟩, .int .i64 0] 55)); clear k7 c1 c3
                    go_wp2_with (first | ((with_reducible refine at_store 17 ?_); refine wpList_store_new rfl 55 (.tmp 17) (.tmp 215) rfl _ #[.int .i64 0, .string ⟨#[]⟩, .int .i64 0, .int .i64 0, .int .i64 0, .slice none 0 0, .string ⟨#[]⟩, .int .i64 0] rfl rfl rowInfo4 rfl (row_one _ _ _ _ _ _ _ _ _ _) ?_) | ((with_reducible refine at_store 2 ?_); refine wpList_store_blk rfl 31 (.tmp 2) (.tmp 219) rfl w.heap.size #[.int .i64 0, .int .i64 0, .string ⟨#[]⟩, .string ⟨#[]⟩, .string ⟨#[]⟩, .int .i64 0] rfl rfl (BlkAt.there (hB7.out) 0 6 (Nat.le_refl 6)) cmd6Info (cmd_one _ _ _ _ _ _) ?_; intro w9 hr9 hs9))
                    try rw [hFv]
                    refine bodyPost_ret (v := .tuple #[.agg #[.int .i64 0, .int .i64 0, .string ⟨#[]⟩, .string ⟨#[]⟩, .string ⟨#[]⟩, .int .i64 0], .bool false]) (ret_cell_tmp Tryd.results6 _ _ w.heap.size [.int .i64 0, .int .i64 0, .string ⟨#[]⟩, .string ⟨#[]⟩, .string ⟨#[]⟩, .int .i64 0] _ rfl hr9.out Tryd.underlying31 rfl cmd6Info) rfl (cmd_post_none (hK7.out.trans' hs9.out (fun i e => .inr (by omega))))
                  | some q =>
                    have hf' : Hid (findD 0 L.data.toList = some q) := Lib.hid (by rw [hL'.out]; exact hf)
                    have hcl := rows_short q hf
                    rw [docin1, if_pos rfl, hf] at hFd
                    clear hf
                    obtain ⟨M, hM⟩ : ∃ M : ByteArray, M = ⟨q.name.toArray⟩ := ⟨_, rfl⟩
                    obtain ⟨D, hD⟩ : ∃ D : ByteArray, D = ⟨q.df.toArray⟩ := ⟨_, rfl⟩
                    have hM' := Lib.hid hM; have hD' := Lib.hid hD; have hFd' := Lib.hid hFd; clear hM hD hFd
                    go_wp2_with fail
                    refine (rfind1 0 L q M D _ hf' hM' hD').mono ?_
                    rintro e w7 ⟨p, cc, rfl, hst, hfr, k7⟩
                    clear c1 c3
                    obtain ⟨W8, hW8⟩ : ∃ W8, W8 = w7.alloc (.cells #[.int .i64 q.head, .string M, .int .i64 q.kind, .int .i64 q.lo, .int .i64 q.hi, .slice p q.cs.length cc, .string D, .int .i64 q.cl] 55) := ⟨_, rfl⟩
                    have k8 : Keeps (fun _ => False) w7 W8 := by rw [hW8]; exact (Keeps.refl _ _).alloc _
                    have k68 := k7.trans k8
                    have hBl8 := Lib.hid (hBl6.out.keep k68 id); have hBR8 := Lib.hid (hBR6.out.keep k68 id); have hK8 := Lib.hid (hKR6.out.trans k68)
                    have hBq : Hid (BlkAt W8 w7.heap.size 55 [.int .i64 q.head, .string M, .int .i64 q.kind, .int .i64 q.lo, .int .i64 q.hi, .slice p q.cs.length cc, .string D, .int .i64 q.cl]) := Lib.hid (by rw [hW8]; exact BlkAt.new w7 55 [.int .i64 q.head, .string M, .int .i64 q.kind, .int .i64 q.lo, .int .i64 q.hi, .slice p q.cs.length cc, .string D, .int .i64 q.cl])
                    have hst8 := Lib.hid (hst.keep k8 (fun _ _ _ f => f))
                    have hb7 : b < w7.heap.size := by have h1 := lt_of_block hBl6.out; have h2 := k7.size; omega
                    have hW8' := Lib.hid hW8
                    have hfr' := Lib.hid hfr; have hb6 := Lib.hid (lt_of_block hBl6.out); clear hW8 k7 k8 k68 hBl6 hBR6 hKR6 hst hfr
                    go_upto_region 42 with ((with_reducible refine at_store 17 ?_); refine wpList_store_new rfl 55 (.tmp 17) (.tmp 215) rfl _ #[.int .i64 q.head, .string M, .int .i64 q.kind, .int .i64 q.lo, .int .i64 q.hi, .slice p q.cs.length cc, .string D, .int .i64 q.cl] rfl rfl rowInfo4 rfl (row_one _ _ _ _ _ _ _ _ _ _) ?_)
                    rw [← hW8'.out]
                    clear hW8'
                    have c0 := hBl8.out.cell 0 _ rfl
                    have hFv : F = some ⟨2, 0, [], l, [], 0⟩ := by rw [hFd'.out]; rfl
                    go_wp2_with (first | ((with_reducible refine at_slot 234 ?_); refine wpList_load_mid rfl 31 (.tmp 14) rfl b 0 rfl [.int .i64 2, .int .i64 0, .string ⟨#[]⟩, .string L, .string ⟨#[]⟩, .int .i64 0] _ hBl8.out.range Tryd.underlying31 rfl cmd6Info ?_) | ((with_reducible refine at_store 2 ?_); refine wpList_store_blk rfl 31 (.tmp 2) (.tmp 234) rfl w.heap.size #[.int .i64 2, .int .i64 0, .string ⟨#[]⟩, .string L, .string ⟨#[]⟩, .int .i64 0] rfl rfl (BlkAt.there (hBR8.out) 0 6 (Nat.le_refl 6)) cmd6Info (cmd_one _ _ _ _ _ _) ?_; intro w9 hr9 hs9))
                    try rw [hFv]
                    refine bodyPost_ret (v := .tuple #[.agg #[.int .i64 2, .int .i64 0, .string ⟨#[]⟩, .string L, .string ⟨#[]⟩, .int .i64 0], .bool true]) (ret_cell_tmp Tryd.results6 _ _ w.heap.size [.int .i64 2, .int .i64 0, .string ⟨#[]⟩, .string L, .string ⟨#[]⟩, .int .i64 0] _ rfl hr9.out Tryd.underlying31 rfl cmd6Info) rfl ⟨2, 0, ⟨#[]⟩, L, ⟨#[]⟩, 0, rfl, hK8.out.trans' hs9.out (fun i e => .inr (by omega)), fun cc hcc => by injection hcc with hcc; subst hcc; exact ⟨rfl, rfl, rfl, by rw [hL'.out], rfl, rfl⟩⟩
                · have hgt : (0 : Int) < h := by have := headD_cases y; rw [hhy] at this; omega
                  rw [doc1, if_neg (by rw [hhy]; exact h0), hhy] at hFd
                  cases ys with
                  | nil =>
                    obtain rfl : m = 0 := by simpa using hm.symm
                    have hFv : F = none := hFd
                    clear hFd hall3 hxs h0
                    go_wp2_with ((with_reducible refine at_store 2 ?_); refine wpList_store_blk rfl 31 (.tmp 2) (.tmp 150) rfl w.heap.size #[.int .i64 0, .int .i64 0, .string ⟨#[]⟩, .string ⟨#[]⟩, .string ⟨#[]⟩, .int .i64 0] rfl rfl (BlkAt.there (hBR.out) 0 6 (Nat.le_refl 6)) cmd6Info (cmd_one _ _ _ _ _ _) ?_; intro w9 hr9 hs9)
                    try rw [hFv]
                    refine bodyPost_ret (v := .tuple #[.agg #[.int .i64 0, .int .i64 0, .string ⟨#[]⟩, .string ⟨#[]⟩, .string ⟨#[]⟩, .int .i64 0], .bool false]) (ret_cell_tmp Tryd.results6 _ _ w.heap.size [.int .i64 0, .int .i64 0, .string ⟨#[]⟩, .string ⟨#[]⟩, .string ⟨#[]⟩, .int .i64 0] _ rfl hr9.out Tryd.underlying31 rfl cmd6Info) rfl (cmd_post_none (hKR.out.trans' hs9.out (fun i e => .inr (by omega))))
                  | cons z zs =>
                    obtain ⟨k, hk⟩ : ∃ k, zs.length = k := ⟨_, rfl⟩
                    obtain rfl : m = k + 1 := by rw [← hm, ← hk]; rfl
                    obtain ⟨N, hN⟩ : ∃ N : ByteArray, N = ⟨z.toArray⟩ := ⟨_, rfl⟩
                    have cN : Hid (W3.cell? ⟨g, 2, none⟩ = some (.string N)) := Lib.hid (by rw [hN]; exact hall3.out 2 (by simp))
                    have hNs : N.size ≤ 8796093022000 := by rw [hN]; exact hxs.out z (by simp)
                    have hN' := Lib.hid hN
                    have hNl : N.data.toList = z := by rw [hN]
                    obtain ⟨qq, hqq⟩ : ∃ qq, (if c = 3 then some (⟨g, 1, none⟩ : Addr) else some ⟨g, 3, none⟩) = qq := ⟨_, rfl⟩
                    have hqq' := Lib.hid hqq
                    have hqq3 : 0 < k → qq = some ⟨g, 3, none⟩ := fun h => by rw [← hqq, if_neg (by omega)]
                    clear hN hY2 hYl hhy hm hqq
                    go_upto_region 31 with fail
                    have hk2 : (2 : Int) ≤ (k : Int) + 1 + 1 := by omega
                    have hk1 : (1 : Int) < (k : Int) + 1 + 1 := by omega
                    have kd : Keeps (fun _ => False) W3 W3.drew := (Keeps.refl _ _).drew
                    have hBd : BlkAt W3.drew b 31 [.int .i64 2, .int .i64 0, .string ⟨#[]⟩, .string ⟨#[]⟩, .string ⟨#[]⟩, .int .i64 0] := hBl.out.keep kd id
                    have cF1 := hBd.cell 1 _ rfl
                    have fF1 := hBd.frozen 1
                    have hBd1 : BlkAt (W3.setCell ⟨b, 1, none⟩ (.int .i64 h)).drew b 31 [.int .i64 2, .int .i64 h, .string ⟨#[]⟩, .string ⟨#[]⟩, .string ⟨#[]⟩, .int .i64 0] := (hBl.out.set 1 _).keep ((Keeps.refl (fun _ => False) _).drew) id
                    have cF2 := hBd1.cell 2 _ rfl
                    have fF2 := hBd1.frozen 2
                    have hBl4 : Hid (BlkAt (((W3.setCell ⟨b, 1, none⟩ (.int .i64 h)).setCell ⟨b, 2, none⟩ (.string N)).drew) b 31 [.int .i64 2, .int .i64 h, .string N, .string ⟨#[]⟩, .string ⟨#[]⟩, .int .i64 0]) := Lib.hid (((hBl.out.set 1 _).set 2 _).keep ((Keeps.refl (fun _ => False) _).drew) id)
                    clear hBd hBd1 kd
                    refine wp_region_noPanic ?_
                    refine wp_region_held_drew (S := (fun W => Keeps (fun i => i = b) W3 W)) (by kernel_rfl) (((Keeps.refl _ _).drew)) (fun hHeld => ?_)
                    refine tk 0 rfl ?_
                    refine tk 1 rfl ?_
                    refine tk 2 rfl ?_
                    refine tkL 3 rfl (yieldsIf_load_cell (by rfl) 9 (.tmp 153) rfl g 2 rfl _ (fun _ s => by rw [s.cell (World.block_lt_of_cell? _ _ cN.out) hgb]; exact cN.out) (fun w s => load_strp w _ _ _ s)) ?_
                    refine tk 4 rfl ?_
                    refine tk 5 rfl ?_
                    rw [hqq'.out]
                    refine tk 6 rfl ?_
                    refine tk 7 rfl ?_
                    refine stepL 8 rfl (by kernel_rfl) (fun K hK => ?_)
                    go_simp
                    refine hK.out _ _ ((((Keeps.refl (fun i => i = b) W3).setCell (p := ⟨b, 1, none⟩) (.inl rfl) _).drew)) (fun hHeld => ?_)
                    clear hK K
                    try simp only [Act.put, sA, sZ, sS]
                    refine tk 9 rfl ?_
                    refine tk 10 rfl ?_
                    refine stepL 11 rfl (by kernel_rfl) (fun K hK => ?_)
                    go_simp
                    refine hK.out _ _ ((((((Keeps.refl (fun i => i = b) W3).setCell (p := ⟨b, 1, none⟩) (.inl rfl) _).setCell (p := ⟨b, 2, none⟩) (.inl rfl) _).drew))) (fun hHeld => ?_)
                    clear hK K
                    try simp only [Act.put, sA, sZ, sS]
                    refine tk 12 rfl ?_
                    refine wpAnyH_done (by kernel_rfl) (NoPanic.normal ?_) _
                    clear cF1 fF1 cF2 fF2
                    generalize ((W3.setCell ⟨b, 1, none⟩ (.int .i64 h)).setCell ⟨b, 2, none⟩ (.string N)).drew = W4 at hHeld hBl4 ⊢
                    have hBR4 := Lib.hid (hBR.out.keep hHeld (by omega)); have hKR4 := Lib.hid (hKR.out.trans' hHeld (fun i e => .inr (by omega)))
                    have hall4 := Lib.hid (fun j (hj : j < (x :: y :: z :: zs).length) => (hHeld.cell (World.block_lt_of_cell? _ _ (hall3.out j hj)) hgb).trans (hall3.out j hj))
                    clear hHeld hBl hBR hKR cN
                    have c2 := hBl4.out.cell 2 _ rfl
                    have hFd0 := Lib.hid hFd
                    clear hFd
                    cases hnm : namedB h N.data.toList with
                    | false =>
                      have hnm' := Lib.hid hnm
                      have hFv : F = none := by rw [hFd0.out]; rw [hNl] at hnm; simp only [hnm]; rfl
                      clear hnm hFd0 hall3 hall4 hxs h0 hNl
                      go_wp2_with fail
                      refine (rNamed_any h N false _ hNs hnm').mono ?_
                      rintro e w5 ⟨rfl, k5⟩
                      have hBR5 := Lib.hid (hBR4.out.keep k5 id); have hKR5 := Lib.hid (hKR4.out.trans k5)
                      clear k5 c2
                      go_wp2_with ((with_reducible refine at_store 2 ?_); refine wpList_store_blk rfl 31 (.tmp 2) (.tmp 167) rfl w.heap.size #[.int .i64 0, .int .i64 0, .string ⟨#[]⟩, .string ⟨#[]⟩, .string ⟨#[]⟩, .int .i64 0] rfl rfl (BlkAt.there (hBR5.out) 0 6 (Nat.le_refl 6)) cmd6Info (cmd_one _ _ _ _ _ _) ?_; intro w9 hr9 hs9)
                      try rw [hFv]
                      refine bodyPost_ret (v := .tuple #[.agg #[.int .i64 0, .int .i64 0, .string ⟨#[]⟩, .string ⟨#[]⟩, .string ⟨#[]⟩, .int .i64 0], .bool false]) (ret_cell_tmp Tryd.results6 _ _ w.heap.size [.int .i64 0, .int .i64 0, .string ⟨#[]⟩, .string ⟨#[]⟩, .string ⟨#[]⟩, .int .i64 0] _ rfl hr9.out Tryd.underlying31 rfl cmd6Info) rfl (cmd_post_none (hKR5.out.trans' hs9.out (fun i e => .inr (by omega))))
                    | true =>
                      have hnm' := Lib.hid hnm
                      rw [hNl] at hnm
                      have hFd := hFd0.out
                      clear hFd0
                      simp only [hnm, if_true] at hFd
                      have hFd0 := Lib.hid hFd
                      clear hnm hNl h0 hFd
                      go_wp2_with fail
                      refine (rNamed_any h N true _ hNs hnm').mono ?_
                      rintro e W5 ⟨rfl, k5⟩
                      have hBR := Lib.hid (hBR4.out.keep k5 id); have hKR := Lib.hid (hKR4.out.trans k5); have hBl := Lib.hid (hBl4.out.keep k5 id)
                      have hall5 := Lib.hid (fun j hj => k5.cell0 (hall4.out j hj))
                      clear k5 c2 hBR4 hKR4 hBl4 hall3 hall4
                      have hFd := hFd0.out
                      clear hFd0
                      obtain ⟨R, hRe⟩ : ∃ R, R = zs := ⟨_, rfl⟩
                      have hRl : R.length = k := by rw [hRe, ← hk]
                      have hRs : Hid (∀ z ∈ R, z.length ≤ 8796093022000) := Lib.hid (fun z0 hz0 => hxs.out z0 (by rw [hRe] at hz0; simp [hz0]))
                      have hallW : Hid (∀ j (hj : j < R.length), W5.cell? ⟨g, 3 + j, none⟩ = some (.string ⟨(R[j]).toArray⟩)) := Lib.hid (fun j hj => by subst hRe; have := hall5.out (j + 3) (by simpa using hj); rw [Nat.add_comm 3 j]; exact this)
                      by_cases hk0 : k = 0
                      · subst hk0
                        have hz0 : zs = [] := List.length_eq_zero_iff.1 hk
                        subst hz0
                        have hFv : F = some ⟨2, h, z, [], [], 0⟩ := hFd
                        clear hFd hallW hall5 hRs hRl hRe hxs hqq3
                        have c0 := hBl.out.cell 0 _ rfl
                        have c1 := hBl.out.cell 1 _ rfl
                        go_wp2_with (first | ((with_reducible refine at_slot 182 ?_); refine wpList_load_mid rfl 31 (.tmp 14) rfl b 0 rfl [.int .i64 2, .int .i64 h, .string N, .string ⟨#[]⟩, .string ⟨#[]⟩, .int .i64 0] _ hBl.out.range Tryd.underlying31 rfl cmd6Info ?_) | ((with_reducible refine at_store 2 ?_); refine wpList_store_blk rfl 31 (.tmp 2) (.tmp 182) rfl w.heap.size #[.int .i64 2, .int .i64 h, .string N, .string ⟨#[]⟩, .string ⟨#[]⟩, .int .i64 0] rfl rfl (BlkAt.there (hBR.out) 0 6 (Nat.le_refl 6)) cmd6Info (cmd_one _ _ _ _ _ _) ?_; intro w9 hr9 hs9))
                        try rw [hFv]
                        refine bodyPost_ret (v := .tuple #[.agg #[.int .i64 2, .int .i64 h, .string N, .string ⟨#[]⟩, .string ⟨#[]⟩, .int .i64 0], .bool true]) (ret_cell_tmp Tryd.results6 _ _ w.heap.size [.int .i64 2, .int .i64 h, .string N, .string ⟨#[]⟩, .string ⟨#[]⟩, .int .i64 0] _ rfl hr9.out Tryd.underlying31 rfl cmd6Info) rfl ⟨2, h, N, ⟨#[]⟩, ⟨#[]⟩, 0, rfl, hKR.out.trans' hs9.out (fun i e => .inr (by omega)), fun cc hcc => by injection hcc with hcc; subst hcc; exact ⟨rfl, rfl, by rw [hN'.out], rfl, rfl, rfl⟩⟩
                      replace hFd : F = docSD.docIn 2 h z zs := by rw [hFd, if_neg (fun e => hk0 (by rw [← hk, e.2]; rfl))]
                      rw [← hRe] at hFd
                      have hkp : ¬ k = 0 → qq = some ⟨g, 3, none⟩ := fun e => hqq3 (by omega)
                      clear hall5 hxs hk hqq3 hRe
                      by_cases hR : R.length = 1
                      rotate_left
                      · have hFv : F = none := by rw [hFd]; exact docin_del _ _ _ hR
                        rw [hRl] at hR
                        have g1 : (((k : Int) : Int) != 1) = true := by rw [bne_iff_ne]; omega
                        have g2 : (((k : Int) : Int) == 1) = false := by rw [beq_eq_false_iff_ne]; omega
                        have g3 : (((k : Int) : Int) == 0) = false := by rw [beq_eq_false_iff_ne]; omega
                        clear hFd hallW
                        have c0 := hBl.out.cell 0 _ rfl
                        have c1 := hBl.out.cell 1 _ rfl
                        go_wp2_with ((with_reducible refine at_store 2 ?_); refine wpList_store_blk rfl 31 (.tmp 2) (.tmp 201) rfl w.heap.size #[.int .i64 0, .int .i64 0, .string ⟨#[]⟩, .string ⟨#[]⟩, .string ⟨#[]⟩, .int .i64 0] rfl rfl (BlkAt.there (hBR.out) 0 6 (Nat.le_refl 6)) cmd6Info (cmd_one _ _ _ _ _ _) ?_; intro w9 hr9 hs9)
                        try rw [hFv]
                        refine bodyPost_ret (v := .tuple #[.agg #[.int .i64 0, .int .i64 0, .string ⟨#[]⟩, .string ⟨#[]⟩, .string ⟨#[]⟩, .int .i64 0], .bool false]) (ret_cell_tmp Tryd.results6 _ _ w.heap.size [.int .i64 0, .int .i64 0, .string ⟨#[]⟩, .string ⟨#[]⟩, .string ⟨#[]⟩, .int .i64 0] _ rfl hr9.out Tryd.underlying31 rfl cmd6Info) rfl (cmd_post_none (hKR.out.trans' hs9.out (fun i e => .inr (by omega))))
                      obtain ⟨l, rfl⟩ : ∃ l, R = [l] := List.length_eq_one_iff.1 hR
                      obtain ⟨L, hL⟩ : ∃ L : ByteArray, L = ⟨l.toArray⟩ := ⟨_, rfl⟩
                      have cL : W5.cell? ⟨g, 3, none⟩ = some (.string L) := by rw [hL]; exact hallW.out 0 (by simp)
                      have hL' := Lib.hid hL; clear hL
                      simp only [List.length_cons, List.length_nil] at hRl
                      obtain rfl : k = 1 := by omega
                      clear hRl hR
                      obtain rfl : qq = some ⟨g, 3, none⟩ := hkp (by decide)
                      obtain ⟨W6, hW6⟩ : ∃ W6, W6 = W5.setCell ⟨b, 3, none⟩ (.string L) := ⟨_, rfl⟩
                      have k6 : Keeps (fun i => i = b) W5 W6 := by rw [hW6]; exact Keeps.setCell (F := fun i => i = b) (p := ⟨b, 3, none⟩) (Keeps.refl _ _) (.inl rfl) _
                      have hBl6 : Hid (BlkAt W6 b 31 [.int .i64 2, .int .i64 h, .string N, .string L, .string ⟨#[]⟩, .int .i64 0]) := Lib.hid (by rw [hW6]; exact hBl.out.set 3 _)
                      have hBR6 := Lib.hid (hBR.out.keep k6 (by omega))
                      have hKR6 := Lib.hid (hKR.out.trans' k6 (fun i e => .inr (by omega)))
                      have hW6' := Lib.hid hW6
                      clear hW6 k6 hallW
                      have c0 := hBl.out.cell 0 _ rfl
                      have c1 := hBl.out.cell 1 _ rfl
                      have c3 := hBl.out.cell 3 _ rfl
                      have f3 := hBl.out.frozen 3
                      go_upto_region 39 with fail
                      rw [← hW6'.out]
                      clear hW6' c0 c1 c3 f3 cL hBl hBR hKR
                      have c1 := hBl6.out.cell 1 _ rfl
                      have c3 := hBl6.out.cell 3 _ rfl
                      cases hf : findD h l with
                      | none =>
                        have hFv : F = none := by rw [hFd, docin1, if_pos rfl, hf]; rfl
                        have hf' : Hid (findD h L.data.toList = none) := Lib.hid (by rw [hL'.out]; exact hf)
                        clear hf hFd
                        go_wp2_with fail
                        refine (rfind0 h L _ hf').mono ?_
                        rintro e w7 ⟨rfl, k7⟩
                        have hB7 := Lib.hid ((hBR6.out.keep k7 id).alloc (.cells #[.int .i64 0, .string ⟨#[]⟩, .int .i64 0, .int .i64 0, .int .i64 0, .slice none 0 0, .string ⟨#[]⟩, .int .i64 0] 55)); have hK7 := Lib.hid ((hKR6.out.trans k7).alloc (.cells #[.int .i64 0, .string ⟨#[]⟩, .int .i64 0, .int .i64 0, .int .i64 0, .slice none 0 0, .string ⟨#[]⟩, .int .i64 0] 55)); clear k7 c1 c3
                        go_wp2_with (first | ((with_reducible refine at_store 17 ?_); refine wpList_store_new rfl 55 (.tmp 17) (.tmp 215) rfl _ #[.int .i64 0, .string ⟨#[]⟩, .int .i64 0, .int .i64 0, .int .i64 0, .slice none 0 0, .string ⟨#[]⟩, .int .i64 0] rfl rfl rowInfo4 rfl (row_one _ _ _ _ _ _ _ _ _ _) ?_) | ((with_reducible refine at_store 2 ?_); refine wpList_store_blk rfl 31 (.tmp 2) (.tmp 219) rfl w.heap.size #[.int .i64 0, .int .i64 0, .string ⟨#[]⟩, .string ⟨#[]⟩, .string ⟨#[]⟩, .int .i64 0] rfl rfl (BlkAt.there (hB7.out) 0 6 (Nat.le_refl 6)) cmd6Info (cmd_one _ _ _ _ _ _) ?_; intro w9 hr9 hs9))
                        try rw [hFv]
                        refine bodyPost_ret (v := .tuple #[.agg #[.int .i64 0, .int .i64 0, .string ⟨#[]⟩, .string ⟨#[]⟩, .string ⟨#[]⟩, .int .i64 0], .bool false]) (ret_cell_tmp Tryd.results6 _ _ w.heap.size [.int .i64 0, .int .i64 0, .string ⟨#[]⟩, .string ⟨#[]⟩, .string ⟨#[]⟩, .int .i64 0] _ rfl hr9.out Tryd.underlying31 rfl cmd6Info) rfl (cmd_post_none (hK7.out.trans' hs9.out (fun i e => .inr (by omega))))
                      | some q =>
                        have hf' : Hid (findD h L.data.toList = some q) := Lib.hid (by rw [hL'.out]; exact hf)
                        have hcl := rows_short q hf
                        rw [docin1, if_pos rfl, hf] at hFd
                        clear hf
                        obtain ⟨M, hM⟩ : ∃ M : ByteArray, M = ⟨q.name.toArray⟩ := ⟨_, rfl⟩
                        obtain ⟨D, hD⟩ : ∃ D : ByteArray, D = ⟨q.df.toArray⟩ := ⟨_, rfl⟩
                        have hM' := Lib.hid hM; have hD' := Lib.hid hD; have hFd' := Lib.hid hFd; clear hM hD hFd
                        go_wp2_with fail
                        refine (rfind1 h L q M D _ hf' hM' hD').mono ?_
                        rintro e w7 ⟨p, cc, rfl, hst, hfr, k7⟩
                        clear c1 c3
                        obtain ⟨W8, hW8⟩ : ∃ W8, W8 = w7.alloc (.cells #[.int .i64 q.head, .string M, .int .i64 q.kind, .int .i64 q.lo, .int .i64 q.hi, .slice p q.cs.length cc, .string D, .int .i64 q.cl] 55) := ⟨_, rfl⟩
                        have k8 : Keeps (fun _ => False) w7 W8 := by rw [hW8]; exact (Keeps.refl _ _).alloc _
                        have k68 := k7.trans k8
                        have hBl8 := Lib.hid (hBl6.out.keep k68 id); have hBR8 := Lib.hid (hBR6.out.keep k68 id); have hK8 := Lib.hid (hKR6.out.trans k68)
                        have hBq : Hid (BlkAt W8 w7.heap.size 55 [.int .i64 q.head, .string M, .int .i64 q.kind, .int .i64 q.lo, .int .i64 q.hi, .slice p q.cs.length cc, .string D, .int .i64 q.cl]) := Lib.hid (by rw [hW8]; exact BlkAt.new w7 55 [.int .i64 q.head, .string M, .int .i64 q.kind, .int .i64 q.lo, .int .i64 q.hi, .slice p q.cs.length cc, .string D, .int .i64 q.cl])
                        have hst8 := Lib.hid (hst.keep k8 (fun _ _ _ f => f))
                        have hb7 : b < w7.heap.size := by have h1 := lt_of_block hBl6.out; have h2 := k7.size; omega
                        have hW8' := Lib.hid hW8
                        have hfr' := Lib.hid hfr; have hb6 := Lib.hid (lt_of_block hBl6.out); clear hW8 k7 k8 k68 hBl6 hBR6 hKR6 hst hfr
                        go_upto_region 42 with ((with_reducible refine at_store 17 ?_); refine wpList_store_new rfl 55 (.tmp 17) (.tmp 215) rfl _ #[.int .i64 q.head, .string M, .int .i64 q.kind, .int .i64 q.lo, .int .i64 q.hi, .slice p q.cs.length cc, .string D, .int .i64 q.cl] rfl rfl rowInfo4 rfl (row_one _ _ _ _ _ _ _ _ _ _) ?_)
                        rw [← hW8'.out]
                        clear hW8'
                        have c0 := hBl8.out.cell 0 _ rfl
                        have hFv : F = some ⟨2, h, z, l, [], 0⟩ := by rw [hFd'.out]; rfl
                        go_wp2_with (first | ((with_reducible refine at_slot 234 ?_); refine wpList_load_mid rfl 31 (.tmp 14) rfl b 0 rfl [.int .i64 2, .int .i64 h, .string N, .string L, .string ⟨#[]⟩, .int .i64 0] _ hBl8.out.range Tryd.underlying31 rfl cmd6Info ?_) | ((with_reducible refine at_store 2 ?_); refine wpList_store_blk rfl 31 (.tmp 2) (.tmp 234) rfl w.heap.size #[.int .i64 2, .int .i64 h, .string N, .string L, .string ⟨#[]⟩, .int .i64 0] rfl rfl (BlkAt.there (hBR8.out) 0 6 (Nat.le_refl 6)) cmd6Info (cmd_one _ _ _ _ _ _) ?_; intro w9 hr9 hs9))
                        try rw [hFv]
                        refine bodyPost_ret (v := .tuple #[.agg #[.int .i64 2, .int .i64 h, .string N, .string L, .string ⟨#[]⟩, .int .i64 0], .bool true]) (ret_cell_tmp Tryd.results6 _ _ w.heap.size [.int .i64 2, .int .i64 h, .string N, .string L, .string ⟨#[]⟩, .int .i64 0] _ rfl hr9.out Tryd.underlying31 rfl cmd6Info) rfl ⟨2, h, N, L, ⟨#[]⟩, 0, rfl, hK8.out.trans' hs9.out (fun i e => .inr (by omega)), fun cc hcc => by injection hcc with hcc; subst hcc; exact ⟨rfl, rfl, by rw [hN'.out], by rw [hL'.out], rfl, rfl⟩⟩
end Go.Proofs.YtfflgbpppcfamaaDoor
