/- plan.word, plan.Text, walked (gen_plt.py, out of RVB). -/
import Derived.Test.YtmclnamgihphcaaMP10
import Derived.Test.YtmclnamgihphcaaMP05
import Derived.Deep.DeepCutAuto
import Derived.Test.YtmclnamgihphcaaMP06
set_option linter.unusedVariables false
set_option linter.unusedSimpArgs false
set_option linter.unusedVariables false
set_option linter.unusedSimpArgs false
namespace Go.Proofs.Ytmclnamgihphcaa
open Go.RowKit

theorem IsB.keep {B b : Nat} {bs : List Value} {w w' : World} (h : IsB B b bs w) (k : Keeps (fun _ => False) w w') : IsB B b bs w' := by
  have f : ∀ p, Lib.BuilderAt 59 5 B b p bs w → Lib.BuilderAt 59 5 B b p bs w' := fun p h => by
    obtain ⟨hB, v, hbk, hown, hne⟩ := h
    have hx : b < w.heap.size := by
      rcases Nat.lt_or_ge b w.heap.size with h' | h'
      · exact h'
      · simp [Array.getElem?_eq_none h'] at hbk
    exact ⟨hB, v, by rw [k.block b hx id]; exact hbk, k.ownsRow hown (fun _ _ f => f), hne⟩
  rcases h with h | h
  · exact .inl (f _ h)
  · exact .inr (f _ h)
theorem IsB.new (w : World) : IsB w.heap.size w.heap.size (Lib.byteCells []) (w.alloc (.cells #[.pointer none, .slice none 0 0] 59)) :=
  .inl ⟨Nat.le_refl _, .slice none 0 0, heap_alloc_last w _, ⟨rfl, .inl ⟨rfl, rfl⟩⟩, by simp [Value.ownBlock]⟩
theorem Below.keepsB {B : Nat} {w w' : World} (h : Below B w w') : Keeps (fun i => B ≤ i) w w' := ⟨h.os, h.tape, h.output, h.size, fun k hk hn => h.block k (by omega)⟩
def wordF (k : Int) : List UInt8 :=
  if k = 1 then [119, 104, 111, 108, 101]
  else if k = 2 then [115, 116, 111, 112]
  else if k = 3 then [109, 111, 118, 101]
  else if k = 4 then [114, 101, 115, 116, 97, 114, 116]
  else if k = 5 then [114, 101, 115, 101, 116]
  else if k = 6 then [115, 116, 97, 114, 116]
  else if k = 7 then [97, 110, 101, 119]
  else if k = 8 then [104, 101, 108, 108, 111, 115]
  else if k = 9 then [116, 105, 109, 101, 114, 115]
  else [63]
def pieceF (f : ActD) : List UInt8 := wordF f.kind ++ (if f.name = [] then [] else 32 :: f.name) ++ [10]
def textF (fs : List ActD) : List UInt8 := fs.flatMap pieceF
theorem wordF_len (k : Int) : (wordF k).length ≤ 9 := by
  unfold wordF
  repeat' split
  all_goals simp
theorem textF_step {fs : List ActD} {k : Nat} {f : ActD} (hq : fs[k]? = some f) : textF (fs.take (k + 1)) = textF (fs.take k) ++ pieceF f := by
  unfold textF
  rw [List.take_add_one, hq, List.flatMap_append]
  simp
theorem textF_pre (fs : List ActD) (k : Nat) : (textF (fs.take k)).length ≤ (textF fs).length := by
  have : textF fs = textF (fs.take k) ++ textF (fs.drop k) := by unfold textF; rw [← List.flatMap_append, List.take_append_drop]
  rw [this, List.length_append]; omega
set_option maxRecDepth 100000 in
theorem plWord_any (k : Int) (W : ByteArray) (w : World) (hW : Hid (W = ⟨(wordF k).toArray⟩)) : Calls Try.prog 23 #[.int .i64 k] w (NewRes (.string W) w) := by
  by_cases h1 : k = 1
  · subst h1
    have e : W = ⟨#[119, 104, 111, 108, 101]⟩ := by rw [hW.out]; rfl
    clear hW
    go_enter Try.func23, Try.ntmps23
    go_wp2
    go_ret
    exact ⟨by rw [e]; rfl, Keeps.refl _ _⟩
  by_cases h2 : k = 2
  · subst h2
    have e : W = ⟨#[115, 116, 111, 112]⟩ := by rw [hW.out]; rfl
    clear hW
    go_enter Try.func23, Try.ntmps23
    go_wp2
    go_ret
    exact ⟨by rw [e]; rfl, Keeps.refl _ _⟩
  by_cases h3 : k = 3
  · subst h3
    have e : W = ⟨#[109, 111, 118, 101]⟩ := by rw [hW.out]; rfl
    clear hW
    go_enter Try.func23, Try.ntmps23
    go_wp2
    go_ret
    exact ⟨by rw [e]; rfl, Keeps.refl _ _⟩
  by_cases h4 : k = 4
  · subst h4
    have e : W = ⟨#[114, 101, 115, 116, 97, 114, 116]⟩ := by rw [hW.out]; rfl
    clear hW
    go_enter Try.func23, Try.ntmps23
    go_wp2
    go_ret
    exact ⟨by rw [e]; rfl, Keeps.refl _ _⟩
  by_cases h5 : k = 5
  · subst h5
    have e : W = ⟨#[114, 101, 115, 101, 116]⟩ := by rw [hW.out]; rfl
    clear hW
    go_enter Try.func23, Try.ntmps23
    go_wp2
    go_ret
    exact ⟨by rw [e]; rfl, Keeps.refl _ _⟩
  by_cases h6 : k = 6
  · subst h6
    have e : W = ⟨#[115, 116, 97, 114, 116]⟩ := by rw [hW.out]; rfl
    clear hW
    go_enter Try.func23, Try.ntmps23
    go_wp2
    go_ret
    exact ⟨by rw [e]; rfl, Keeps.refl _ _⟩
  by_cases h7 : k = 7
  · subst h7
    have e : W = ⟨#[97, 110, 101, 119]⟩ := by rw [hW.out]; rfl
    clear hW
    go_enter Try.func23, Try.ntmps23
    go_wp2
    go_ret
    exact ⟨by rw [e]; rfl, Keeps.refl _ _⟩
  by_cases h8 : k = 8
  · subst h8
    have e : W = ⟨#[104, 101, 108, 108, 111, 115]⟩ := by rw [hW.out]; rfl
    clear hW
    go_enter Try.func23, Try.ntmps23
    go_wp2
    go_ret
    exact ⟨by rw [e]; rfl, Keeps.refl _ _⟩
  by_cases h9 : k = 9
  · subst h9
    have e : W = ⟨#[116, 105, 109, 101, 114, 115]⟩ := by rw [hW.out]; rfl
    clear hW
    go_enter Try.func23, Try.ntmps23
    go_wp2
    go_ret
    exact ⟨by rw [e]; rfl, Keeps.refl _ _⟩
  have e : W = ⟨#[63]⟩ := by rw [hW.out]; unfold wordF; rw [if_neg h1, if_neg h2, if_neg h3, if_neg h4, if_neg h5, if_neg h6, if_neg h7, if_neg h8, if_neg h9]
  have e1 : (k == 1) = false := by simpa using h1
  have e2 : (k == 2) = false := by simpa using h2
  have e3 : (k == 3) = false := by simpa using h3
  have e4 : (k == 4) = false := by simpa using h4
  have e5 : (k == 5) = false := by simpa using h5
  have e6 : (k == 6) = false := by simpa using h6
  have e7 : (k == 7) = false := by simpa using h7
  have e8 : (k == 8) = false := by simpa using h8
  have e9 : (k == 9) = false := by simpa using h9
  clear h1 h2 h3 h4 h5 h6 h7 h8 h9 hW
  go_enter Try.func23, Try.ntmps23
  go_wp2
  go_ret
  exact ⟨by rw [e]; rfl, Keeps.refl _ _⟩

theorem nil_yes {a : ByteArray} (h : a.data.toList = []) : a.toList.isEmpty = true ∧ (a.toList == []) = true ∧ (a.toList != []) = false := by rw [Lib.toList_data, h]; exact ⟨rfl, rfl, rfl⟩
theorem nil_no {a : ByteArray} (h : a.data.toList ≠ []) : a.toList.isEmpty = false ∧ (a.toList == []) = false ∧ (a.toList != []) = true := by
  rw [Lib.toList_data]
  cases hh : a.data.toList with
  | nil => exact absurd hh h
  | cons => exact ⟨rfl, rfl, rfl⟩
theorem act_one (k : Int) (n : ByteArray) : (#[.int .i64 k, .string n] : Array Value).all (·.oneCell') = true := by simp; exact ⟨rfl, rfl⟩

set_option maxRecDepth 100000 in
set_option maxHeartbeats 8000000 in
theorem plText_any (v : Value) (fs : List ActD) (T : ByteArray) (w : World) (hv : Hid (RowsAt 2 aVals w v fs)) (hl : fs.length ≤ 1000000000) (hz : (textF fs).length ≤ 1000000000) (hT : Hid (T = ⟨(textF fs).toArray⟩)) :
    Calls Try.prog 8 #[v] w (NewRes (.string T) w) := by
  obtain ⟨p, c, rfl⟩ := hv.out.slice
  have hz' := Lib.hid hz
  clear hz
  go_enter Try.func8, Try.ntmps8
  go_wp2_with fail
  have hI0 := Lib.hid (IsB.new w)
  have hK0 : Hid (KeepsT w.heap.size w (w.alloc (.cells #[.pointer none, .slice none 0 0] 59))) := Lib.hid (KeepsT.of ((Keeps.refl _ _).alloc _))
  go_loopw [8] (fun iv wr => ∃ (k : Nat), k ≤ fs.length ∧ iv = .int .i64 k ∧ Hid (IsB w.heap.size w.heap.size (Lib.byteCells (textF (fs.take k))) wr) ∧ Hid (KeepsT w.heap.size w wr)) (fun iv _ => fs.length - (intOf iv).toNat)
  case atStart => exact ⟨0, by omega, rfl, hI0, hK0⟩
  case round =>
    obtain ⟨k, hk, rfl, hI, hKr⟩ := hrel
    by_cases hlk : k < fs.length
    · obtain ⟨g, o, rfl, hrows⟩ := hv.out.open (by omega)
      obtain ⟨f, hq⟩ : ∃ q, fs[k]? = some q := ⟨_, List.getElem?_eq_getElem hlk⟩
      obtain ⟨N, hN⟩ : ∃ N : ByteArray, N = ⟨f.name.toArray⟩ := ⟨_, rfl⟩
      have hstep := Lib.hid (textF_step hq)
      have hb1 := textF_pre fs (k + 1)
      rw [hstep.out, List.length_append] at hb1
      have hwl := wordF_len f.kind
      have hps : (pieceF f).length ≤ 1000000000 := by have := hz'.out; omega
      have sN : N.size ≤ 1000000000 := by
        have e : N.size = f.name.length := by rw [hN]; rfl
        unfold pieceF at hps
        rw [List.length_append, List.length_append] at hps
        split at hps
        · rename_i h; rw [e, h]; simp
        · rw [List.length_cons] at hps; omega
      obtain ⟨U, hU⟩ : ∃ U, textF (fs.take k) = U := ⟨_, rfl⟩
      have hUl : U.length + (pieceF f).length ≤ 1000000000 := by rw [← hU]; have := hz'.out; omega
      rw [hU] at hI hstep
      have hgw : Hid (¬ w.heap.size ≤ g) := Lib.hid (by have := World.block_lt_of_cell? w _ (hrows k f hq 0 _ rfl); have h3 : g < w.heap.size := this; omega)
      have hrw : Hid (wr.rangeAt g (o + k * 2) [.int .i64 f.kind, .string N]) := Lib.hid (by rw [hN]; exact hKr.out.k.rangeAt (hrows k f hq) hgw.out)
      have hNl : Hid (N.data.toList = f.name) := Lib.hid (by rw [hN])
      obtain ⟨WD, hWD⟩ : ∃ W : ByteArray, W = ⟨(wordF f.kind).toArray⟩ := ⟨_, rfl⟩
      have hWl : Hid (WD.data.toList = wordF f.kind) := Lib.hid (by rw [hWD])
      have sWD : WD.size = (wordF f.kind).length := by rw [hWD]; rfl
      have hWD' := Lib.hid hWD
      have hBx : Hid (BlkAt (wr.alloc (.cells #[.int .i64 f.kind, .string N] 33)) wr.heap.size 33 [.int .i64 f.kind, .string N]) := Lib.hid (BlkAt.new _ _ _)
      have hIx : Hid (IsB w.heap.size w.heap.size (Lib.byteCells U) (wr.alloc (.cells #[.int .i64 f.kind, .string N] 33))) := Lib.hid (hI.out.keep ((Keeps.refl _ _).alloc _))
      have hKx : Hid (KeepsT w.heap.size w (wr.alloc (.cells #[.int .i64 f.kind, .string N] 33))) := Lib.hid (hKr.out.trans (KeepsT.of ((Keeps.refl _ _).alloc _)))
      have m1 : (0 : Int) ≤ (k : Int) := by omega
      have m2 : (k : Int) < (fs.length : Int) := by omega
      have hpl : (pieceF f).length = (wordF f.kind).length + (if f.name = [] then [] else 32 :: f.name).length + 1 := by unfold pieceF; rw [List.length_append, List.length_append]; rfl
      clear hrows hN hWD hq hI hI0 hK0 hU hb1 hps
      have c0 := hBx.out.cell 0 _ rfl
      go_upto_region 5 with (first | ((with_reducible refine at_slot 11 ?_); refine wpList_load_mid rfl 33 (.tmp 10) rfl g (o + k * 2) rfl [.int .i64 f.kind, .string N] _ hrw.out Try.underlying33 rfl actInfo ?_) | ((with_reducible refine at_store 5 ?_); refine wpList_store_new rfl 33 (.tmp 5) (.tmp 11) rfl _ #[.int .i64 f.kind, .string N] rfl rfl actInfo rfl (act_one _ _) ?_))
      generalize hgx : wr.heap.size = gx at hBx c0 ⊢
      generalize hWx : wr.alloc (.cells #[.int .i64 f.kind, .string N] 33) = Wx at hBx hIx hKx c0 ⊢
      clear hgx hWx hrw hKr
      go_wp2_with fail
      refine (plWord_any f.kind WD _ hWD').mono ?_
      rintro e w4 ⟨rfl, k4⟩
      have hI4 := Lib.hid (hIx.out.keep k4)
      have hK4 := Lib.hid (hKx.out.trans (KeepsT.of k4))
      have hB4 := Lib.hid (hBx.out.keep k4 id)
      clear k4 hBx hIx hKx c0
      go_wp2_with fail
      refine (writeString_any _ _ U WD _ hI4.out (by omega) (by have := hK4.out.k.size; omega)).mono ?_
      rintro e w5 ⟨rfl, i5, k5⟩
      have hI5 := Lib.hid i5
      have hK5 := Lib.hid (hK4.out.trans k5)
      have hB5 := Lib.hid (k5.blk hB4.out (by decide) (by decide))
      clear i5 k5 hI4 hK4 hB4
      have c1 := hB5.out.cell 1 _ rfl
      by_cases hn0 : f.name = []
      · have hNn := nil_yes (hNl.out.trans hn0)
        obtain ⟨z1, z2, z3⟩ := hNn
        rw [if_pos hn0] at hpl
        have hlenW : (U ++ WD.data.toList).length + (⟨#[10]⟩ : ByteArray).size ≤ 1000000000 := by
          have e3 : WD.data.toList.length = WD.size := by simp
          have e4 : (⟨#[10]⟩ : ByteArray).size = 1 := rfl
          rw [List.length_append, e3, e4]
          simp only [List.length_nil] at hpl; omega
        have hfin : Hid (textF (fs.take (k + 1)) = U ++ WD.data.toList ++ [10]) := Lib.hid (by rw [hstep.out, hWl.out]; unfold pieceF; rw [if_pos hn0]; simp)
        clear hn0
        go_wp2_with fail
        refine (writeString_any _ _ _ ⟨#[10]⟩ _ hI5.out hlenW (by have := hK5.out.k.size; omega)).mono ?_
        rintro e w6 ⟨rfl, i6, k6⟩
        have hI6 := Lib.hid i6
        have hK6 := Lib.hid (hK5.out.trans k6)
        clear i6 k6 hI5 hK5 hB5 c1
        go_wp2_with fail
        exact ⟨⟨k + 1, by omega, by go_num, by rw [hfin.out]; exact hI6, hK6⟩, by simp [intOf]; omega⟩
      · have hNn := nil_no (fun e => hn0 (hNl.out.symm.trans e))
        obtain ⟨z1, z2, z3⟩ := hNn
        rw [if_neg hn0] at hpl
        have eN : N.size = f.name.length := by rw [← hNl.out]; simp
        obtain ⟨T3, h3⟩ : ∃ T : ByteArray, T = ⟨#[32]⟩ ++ N := ⟨_, rfl⟩
        have h3' := Lib.hid h3
        have s3 : T3.size = 1 + N.size := by rw [h3, ByteArray.size_append]; rfl
        have hT3l : Hid (T3.data.toList = 32 :: f.name) := Lib.hid (by rw [h3, ← hNl.out]; simp)
        clear h3
        have hlenN : (U ++ WD.data.toList).length + T3.size ≤ 1000000000 := by
          have e3 : WD.data.toList.length = WD.size := by simp
          have e4 := s3
          rw [List.length_append, e3, e4]
          simp only [List.length_cons] at hpl; omega
        have hlenW : (U ++ WD.data.toList ++ T3.data.toList).length + (⟨#[10]⟩ : ByteArray).size ≤ 1000000000 := by
          have e3 : WD.data.toList.length = WD.size := by simp
          have e4 : T3.data.toList.length = 1 + N.size := by rw [← s3]; simp
          have e5 : (⟨#[10]⟩ : ByteArray).size = 1 := rfl
          rw [List.length_append, List.length_append, e3, e4, e5]
          simp only [List.length_cons] at hpl; omega
        have hfin : Hid (textF (fs.take (k + 1)) = U ++ WD.data.toList ++ T3.data.toList ++ [10]) := Lib.hid (by rw [hstep.out, hWl.out]; unfold pieceF; rw [if_neg hn0, hT3l.out]; simp)
        clear hn0
        go_wp2_with fail
        rw [← h3'.out]
        refine (writeString_any _ _ _ T3 _ hI5.out hlenN (by have := hK5.out.k.size; omega)).mono ?_
        rintro e w6 ⟨rfl, i6, k6⟩
        have hI6 := Lib.hid i6
        have hK6 := Lib.hid (hK5.out.trans k6)
        clear i6 k6 hI5 hK5 hB5 c1
        go_wp2_with fail
        refine (writeString_any _ _ _ ⟨#[10]⟩ _ hI6.out hlenW (by have := hK6.out.k.size; omega)).mono ?_
        rintro e w7 ⟨rfl, i7, k7⟩
        have hI7 := Lib.hid i7
        have hK7 := Lib.hid (hK6.out.trans k7)
        clear i7 k7 hI6 hK6
        go_wp2_with fail
        exact ⟨⟨k + 1, by omega, by go_num, by rw [hfin.out]; exact hI7, hK7⟩, by simp [intOf]; omega⟩
    · obtain rfl : k = fs.length := by omega
      have hx2 : textF (fs.take fs.length) = textF fs := by rw [List.take_length]
      rw [hx2] at hI
      clear hlk hk hI0 hK0 hx2
      go_wp2_with fail
      refine (Try.Builder_String_any _ _ _ _ hI.out (by have := hKr.out.k.size; omega)).mono ?_
      rintro e w3 ⟨rfl, b3⟩
      have b3' := Lib.hid b3
      clear b3
      rw [← hT.out]
      go_wp2_with fail
      go_ret
      exact ⟨rfl, ((hKr.out.k.trans (Below.keepsB b3'.out)).mono (fun i hi => .inr hi))⟩
end Go.Proofs.Ytmclnamgihphcaa
/- The document's Text of actions, walked (gen_plt.py, out of RVC). -/
set_option linter.unusedVariables false
set_option linter.unusedSimpArgs false
namespace Go.Proofs.Ytmclnamgihphcaa
open Go.RowKit

def ten17 : List Value := [.string ⟨#[63]⟩, .string ⟨#[119, 104, 111, 108, 101]⟩, .string ⟨#[115, 116, 111, 112]⟩, .string ⟨#[109, 111, 118, 101]⟩, .string ⟨#[114, 101, 115, 116, 97, 114, 116]⟩, .string ⟨#[114, 101, 115, 101, 116]⟩, .string ⟨#[115, 116, 97, 114, 116]⟩, .string ⟨#[97, 110, 101, 119]⟩, .string ⟨#[104, 101, 108, 108, 111, 115]⟩, .string ⟨#[116, 105, 109, 101, 114, 115]⟩]
theorem ten17_get : ∀ kk : Nat, kk < 10 → ten17[kk]? = some (.string ⟨(wordF (kk : Int)).toArray⟩) := by
  intro kk h
  match kk, h with
  | 0, _ => rfl
  | 1, _ => rfl
  | 2, _ => rfl
  | 3, _ => rfl
  | 4, _ => rfl
  | 5, _ => rfl
  | 6, _ => rfl
  | 7, _ => rfl
  | 8, _ => rfl
  | 9, _ => rfl
theorem wordF_out {k : Int} (h : k < 0 ∨ 9 < k) : wordF k = wordF 0 := by
  unfold wordF
  rw [if_neg (by omega), if_neg (by omega), if_neg (by omega), if_neg (by omega), if_neg (by omega), if_neg (by omega), if_neg (by omega), if_neg (by omega), if_neg (by omega)]
  rfl
set_option maxRecDepth 100000 in
theorem run_b9 (W : World) : (Instr.buildSlice 66 10 #[(0, .string ⟨#[63]⟩), (1, .string ⟨#[119, 104, 111, 108, 101]⟩), (2, .string ⟨#[115, 116, 111, 112]⟩), (3, .string ⟨#[109, 111, 118, 101]⟩), (4, .string ⟨#[114, 101, 115, 116, 97, 114, 116]⟩), (5, .string ⟨#[114, 101, 115, 101, 116]⟩), (6, .string ⟨#[115, 116, 97, 114, 116]⟩), (7, .string ⟨#[97, 110, 101, 119]⟩), (8, .string ⟨#[104, 101, 108, 108, 111, 115]⟩), (9, .string ⟨#[116, 105, 109, 101, 114, 115]⟩)]).run Try.prog W = .ok (.slice (some ⟨W.heap.size, 0, none⟩) 10 10) (W.alloc (.cells ten17.toArray 9)) := by unfold ten17; go_simp
theorem wpList_b9 {ops : Array Oper} {rest : List Oper} {op : Oper} {a : Act} {w : World} {Q : Exit → Act → World → Prop} (hgd : op.guard = none) (ho : op.op = .buildSlice 66 10 #[(0, .const (.string ⟨#[63]⟩)), (1, .const (.string ⟨#[119, 104, 111, 108, 101]⟩)), (2, .const (.string ⟨#[115, 116, 111, 112]⟩)), (3, .const (.string ⟨#[109, 111, 118, 101]⟩)), (4, .const (.string ⟨#[114, 101, 115, 116, 97, 114, 116]⟩)), (5, .const (.string ⟨#[114, 101, 115, 101, 116]⟩)), (6, .const (.string ⟨#[115, 116, 97, 114, 116]⟩)), (7, .const (.string ⟨#[97, 110, 101, 119]⟩)), (8, .const (.string ⟨#[104, 101, 108, 108, 111, 115]⟩)), (9, .const (.string ⟨#[116, 105, 109, 101, 114, 115]⟩))])
    (h : ∀ W3, Hid (W3 = w.alloc (.cells ten17.toArray 9)) → wpList Try.prog ops Q rest (a.put op.dst (.slice (some ⟨w.heap.size, 0, none⟩) 10 10)) W3) : wpList Try.prog ops Q (op :: rest) a w :=
  wpList_plain hgd fun _ hK => by
    unfold Oper.wp execOp
    simp only [ho, Sem.run_bind, List.map_toArray, List.map_cons, List.map_nil]
    have := run_b9 w
    simp only [show ∀ v : Value, a.eval (.const v) = v from fun _ => rfl, this, Result.andThen_ok]
    exact hK _ _ (h _ (Lib.hid rfl))
theorem wpList_load_cell8 {P : Program} {ops : Array Oper} {rest : List Oper} {op : Oper} {a : Act} {w : World} {Q : Exit → Act → World → Prop} (hgd : op.guard = none) (ty : TypeId) (x : Operand) (ho : op.op = .load ty x)
    (b o : Nat) (hx : a.eval x = .pointer (some ⟨b, o, none⟩)) (v : Value) (hl : (loadVar ty ⟨b, o, none⟩).run P w = .ok v w)
    (h : wpList P ops Q rest (a.put op.dst v) w) : wpList P ops Q (op :: rest) a w :=
  wpList_plain hgd fun _ hK => by
    unfold Oper.wp execOp
    simp only [ho, hx, Instr.loadAt, Instr.sureAddr, Sem.run_bind, Sem.run_pure, Result.andThen_ok, hl]
    exact hK _ _ h

set_option maxRecDepth 100000 in
set_option maxHeartbeats 8000000 in
theorem r17Text_any (v : Value) (fs : List ActD) (T : ByteArray) (w : World) (hv : Hid (RowsAt 2 aVals w v fs)) (hl : fs.length ≤ 1000000000) (hz : (textF fs).length ≤ 1000000000) (hT : Hid (T = ⟨(textF fs).toArray⟩)) :
    Calls Try.prog 9 #[v] w (NewRes (.string T) w) := by
  obtain ⟨p, c, rfl⟩ := hv.out.slice
  have hz' := Lib.hid hz
  clear hz
  go_enter Try.func9, Try.ntmps9
  go_upto_region 2 with ((with_reducible refine at_slot 7 ?_); refine wpList_b9 rfl rfl ?_; intro W0 hW0)
  have hK0 : Hid (Keeps (fun _ => False) w W0) := Lib.hid (by rw [hW0.out]; exact (Keeps.refl _ _).alloc _)
  have hN0 : Hid (BlkAt W0 w.heap.size 9 ten17) := Lib.hid (by rw [hW0.out]; exact BlkAt.new _ _ _)
  clear hW0
  go_wp2_with fail
  go_loopw [5, 4] (fun iv ov wr => ∃ (k : Nat) (S : ByteArray), k ≤ fs.length ∧ iv = .int .i64 k ∧ ov = .string S ∧ Hid (S.data.toList = textF (fs.take k)) ∧ Hid (Keeps (fun _ => False) w wr) ∧ Hid (BlkAt wr w.heap.size 9 ten17)) (fun iv _ _ => fs.length - (intOf iv).toNat)
  case atStart => exact ⟨0, ⟨#[]⟩, by omega, rfl, rfl, Lib.hid rfl, hK0, hN0⟩
  case round =>
    obtain ⟨k, S, hk, rfl, rfl, hS, hKr, hNr⟩ := hrel
    by_cases hlk : k < fs.length
    · obtain ⟨g, o, rfl, hrows⟩ := hv.out.open (by omega)
      obtain ⟨f, hq⟩ : ∃ q, fs[k]? = some q := ⟨_, List.getElem?_eq_getElem hlk⟩
      obtain ⟨N, hN⟩ : ∃ N : ByteArray, N = ⟨f.name.toArray⟩ := ⟨_, rfl⟩
      have hstep := Lib.hid (textF_step hq)
      have hb1 := textF_pre fs (k + 1)
      rw [hstep.out, List.length_append, ← hS.out] at hb1
      have hwl := wordF_len f.kind
      have hNl : Hid (N.data.toList = f.name) := Lib.hid (by rw [hN])
      have eN : N.size = f.name.length := by rw [← hNl.out]; simp
      have eS : S.data.toList.length = S.size := by simp
      have hpl : (pieceF f).length = (wordF f.kind).length + (if f.name = [] then [] else 32 :: f.name).length + 1 := by unfold pieceF; rw [List.length_append, List.length_append]; rfl
      have sN : N.size ≤ 1000000000 := by
        have := hz'.out
        rw [eN]
        split at hpl
        · rename_i h; rw [h]; simp
        · rw [List.length_cons] at hpl; omega
      have hUl : S.size + (pieceF f).length ≤ 1000000000 := by have := hz'.out; omega
      rw [← hS.out] at hstep
      have hrw : Hid (wr.rangeAt g (o + k * 2) [.int .i64 f.kind, .string N]) := Lib.hid (by rw [hN]; exact hKr.out.rangeAt (hrows k f hq) id)
      obtain ⟨nm, hnm⟩ : ∃ z, f.name = z := ⟨_, rfl⟩
      obtain ⟨kd, hkd⟩ : ∃ z, f.kind = z := ⟨_, rfl⟩
      have hpc : Hid (pieceF f = wordF kd ++ (if nm = [] then [] else 32 :: nm) ++ [10]) := Lib.hid (by unfold pieceF; rw [hkd, hnm])
      rw [hkd, hnm] at hpl
      rw [hkd] at hrw hwl
      rw [hnm] at hNl
      rw [hpc.out] at hstep
      rw [hpl] at hUl
      have m1 : (0 : Int) ≤ (k : Int) := by omega
      have m2 : (k : Int) < (fs.length : Int) := by omega
      have r0 := hrw.out 0 _ rfl
      have r1 := hrw.out 1 _ rfl
      simp only [Nat.add_zero] at r0
      clear hrows hN hq hb1 hpl eN eS hkd hnm hS hpc hK0 hN0 hrw
      go_upto_region 7 with fail
      by_cases a1 : kd < 0
      · have e1 : decide (kd < 0) = true := by simpa using a1
        have hwk : Hid (wordF kd = wordF ((0 : Nat) : Int)) := Lib.hid (wordF_out (.inl a1))
        obtain ⟨WD, hWD⟩ : ∃ W : ByteArray, W = ⟨(wordF kd).toArray⟩ := ⟨_, rfl⟩
        have sWD : WD.size = (wordF kd).length := by rw [hWD]; rfl
        have s9 : Hid (wr.cell? ⟨w.heap.size, 0, none⟩ = some (.string WD)) := Lib.hid (by rw [hWD, hwk.out]; exact hNr.out.cell 0 _ (ten17_get 0 (by omega)))
        have hWl : Hid (WD.data.toList = wordF kd) := Lib.hid (by rw [hWD])
        clear hWD hwk
        by_cases hn0 : nm = []
        · have hNn := nil_yes (hNl.out.trans hn0)
          obtain ⟨z1, z2, z3⟩ := hNn
          rw [if_pos hn0] at hUl
          simp only [List.length_nil] at hUl
          have hfin : Hid ((S ++ WD ++ ⟨#[10]⟩).data.toList = textF (fs.take (k + 1))) := Lib.hid (by rw [hstep.out, if_pos hn0, ← hWl.out]; simp)
          clear hn0
          go_wp2_with ((with_reducible refine at_slot 29 ?_); refine wpList_load_cell8 rfl 9 (.tmp 28) rfl w.heap.size 0 rfl _ (load_str _ _ _ _ s9.out) ?_)
          exact ⟨⟨k + 1, _, by omega, by go_num, rfl, hfin, hKr, hNr⟩, by simp [intOf]; omega⟩
        · have hNn := nil_no (fun e => hn0 (hNl.out.symm.trans e))
          obtain ⟨z1, z2, z3⟩ := hNn
          rw [if_neg hn0] at hUl
          simp only [List.length_cons] at hUl
          have eN : N.size = nm.length := by rw [← hNl.out]; simp
          have hfin : Hid ((S ++ WD ++ ⟨#[32]⟩ ++ N ++ ⟨#[10]⟩).data.toList = textF (fs.take (k + 1))) := Lib.hid (by rw [hstep.out, if_neg hn0, ← hWl.out, ← hNl.out]; simp)
          clear hn0
          go_wp2_with ((with_reducible refine at_slot 29 ?_); refine wpList_load_cell8 rfl 9 (.tmp 28) rfl w.heap.size 0 rfl _ (load_str _ _ _ _ s9.out) ?_)
          exact ⟨⟨k + 1, _, by omega, by go_num, rfl, hfin, hKr, hNr⟩, by simp [intOf]; omega⟩
      · by_cases a2 : 9 < kd
        · have e2 : decide (9 < kd) = true := by simpa using a2
          have hwk : Hid (wordF kd = wordF ((0 : Nat) : Int)) := Lib.hid (wordF_out (.inr a2))
          obtain ⟨WD, hWD⟩ : ∃ W : ByteArray, W = ⟨(wordF kd).toArray⟩ := ⟨_, rfl⟩
          have sWD : WD.size = (wordF kd).length := by rw [hWD]; rfl
          have s9 : Hid (wr.cell? ⟨w.heap.size, 0, none⟩ = some (.string WD)) := Lib.hid (by rw [hWD, hwk.out]; exact hNr.out.cell 0 _ (ten17_get 0 (by omega)))
          have hWl : Hid (WD.data.toList = wordF kd) := Lib.hid (by rw [hWD])
          clear hWD hwk
          by_cases hn0 : nm = []
          · have hNn := nil_yes (hNl.out.trans hn0)
            obtain ⟨z1, z2, z3⟩ := hNn
            rw [if_pos hn0] at hUl
            simp only [List.length_nil] at hUl
            have hfin : Hid ((S ++ WD ++ ⟨#[10]⟩).data.toList = textF (fs.take (k + 1))) := Lib.hid (by rw [hstep.out, if_pos hn0, ← hWl.out]; simp)
            clear hn0
            go_wp2_with ((with_reducible refine at_slot 29 ?_); refine wpList_load_cell8 rfl 9 (.tmp 28) rfl w.heap.size 0 rfl _ (load_str _ _ _ _ s9.out) ?_)
            exact ⟨⟨k + 1, _, by omega, by go_num, rfl, hfin, hKr, hNr⟩, by simp [intOf]; omega⟩
          · have hNn := nil_no (fun e => hn0 (hNl.out.symm.trans e))
            obtain ⟨z1, z2, z3⟩ := hNn
            rw [if_neg hn0] at hUl
            simp only [List.length_cons] at hUl
            have eN : N.size = nm.length := by rw [← hNl.out]; simp
            have hfin : Hid ((S ++ WD ++ ⟨#[32]⟩ ++ N ++ ⟨#[10]⟩).data.toList = textF (fs.take (k + 1))) := Lib.hid (by rw [hstep.out, if_neg hn0, ← hWl.out, ← hNl.out]; simp)
            clear hn0
            go_wp2_with ((with_reducible refine at_slot 29 ?_); refine wpList_load_cell8 rfl 9 (.tmp 28) rfl w.heap.size 0 rfl _ (load_str _ _ _ _ s9.out) ?_)
            exact ⟨⟨k + 1, _, by omega, by go_num, rfl, hfin, hKr, hNr⟩, by simp [intOf]; omega⟩
        · obtain ⟨kk, rfl⟩ := Int.eq_ofNat_of_zero_le (a := kd) (by omega)
          have l1 : (0 : Int) ≤ (kk : Int) := by omega
          have l2 : (kk : Int) < 10 := by omega
          have hwk : Hid (wordF (kk : Int) = wordF ((kk : Nat) : Int)) := Lib.hid rfl
          obtain ⟨WD, hWD⟩ : ∃ W : ByteArray, W = ⟨(wordF (kk : Int)).toArray⟩ := ⟨_, rfl⟩
          have sWD : WD.size = (wordF (kk : Int)).length := by rw [hWD]; rfl
          have s9 : Hid (wr.cell? ⟨w.heap.size, kk, none⟩ = some (.string WD)) := Lib.hid (by rw [hWD, hwk.out]; exact hNr.out.cell kk _ (ten17_get kk (by omega)))
          have hWl : Hid (WD.data.toList = wordF (kk : Int)) := Lib.hid (by rw [hWD])
          clear hWD hwk
          by_cases hn0 : nm = []
          · have hNn := nil_yes (hNl.out.trans hn0)
            obtain ⟨z1, z2, z3⟩ := hNn
            rw [if_pos hn0] at hUl
            simp only [List.length_nil] at hUl
            have hfin : Hid ((S ++ WD ++ ⟨#[10]⟩).data.toList = textF (fs.take (k + 1))) := Lib.hid (by rw [hstep.out, if_pos hn0, ← hWl.out]; simp)
            clear hn0
            go_wp2_with ((with_reducible refine at_slot 29 ?_); refine wpList_load_cell8 rfl 9 (.tmp 28) rfl w.heap.size kk rfl _ (load_str _ _ _ _ s9.out) ?_)
            exact ⟨⟨k + 1, _, by omega, by go_num, rfl, hfin, hKr, hNr⟩, by simp [intOf]; omega⟩
          · have hNn := nil_no (fun e => hn0 (hNl.out.symm.trans e))
            obtain ⟨z1, z2, z3⟩ := hNn
            rw [if_neg hn0] at hUl
            simp only [List.length_cons] at hUl
            have eN : N.size = nm.length := by rw [← hNl.out]; simp
            have hfin : Hid ((S ++ WD ++ ⟨#[32]⟩ ++ N ++ ⟨#[10]⟩).data.toList = textF (fs.take (k + 1))) := Lib.hid (by rw [hstep.out, if_neg hn0, ← hWl.out, ← hNl.out]; simp)
            clear hn0
            go_wp2_with ((with_reducible refine at_slot 29 ?_); refine wpList_load_cell8 rfl 9 (.tmp 28) rfl w.heap.size kk rfl _ (load_str _ _ _ _ s9.out) ?_)
            exact ⟨⟨k + 1, _, by omega, by go_num, rfl, hfin, hKr, hNr⟩, by simp [intOf]; omega⟩
    · obtain rfl : k = fs.length := by omega
      have hx2 : S = T := by
        rw [hT.out]
        have h := hS.out
        rw [List.take_length] at h
        rw [← h]
      clear hlk hk hS
      go_wp2_with fail
      go_ret
      exact ⟨by rw [hx2]; rfl, hKr.out⟩
end Go.Proofs.Ytmclnamgihphcaa
/- PlanRaw, walked. -/
set_option linter.unusedVariables false
set_option linter.unusedSimpArgs false
namespace Go.Proofs.Ytmclnamgihphcaa
open Go.RowKit

set_option maxRecDepth 100000 in
set_option maxHeartbeats 4000000 in
theorem plans_any (w : World) : Calls Try.prog 6 #[] w (NewRes (.bool true) w) := by
  go_enter Try.func6, Try.ntmps6
  go_wp2_with fail
  have one : ∀ (W W' : World) (g : Nat) (q : LineD) (x : UInt8), q = lineP x → Keeps (fun _ => False) (W.alloc (.cells #[.int .i64 2, .string ⟨#[101, 116, 104, 48]⟩, .string ⟨#[99, 111, 115, 116]⟩, .string ⟨#[x]⟩] 53)) W' → g = W.heap.size → RowsAt 4 lineVals W' (.slice (some ⟨g, 0, none⟩) 1 1) [q] := fun W W' g q x hq hk hg => by
    subst hq; subst hg
    refine RowsAt.keep ⟨_, 1, rfl, fun h => (by cases h), by simp, fun _ => ⟨_, 0, rfl, fun i y hy => ?_⟩⟩ hk
    cases i with
    | zero =>
      simp at hy; subst hy
      intro j u hu
      exact (BlkAt.new W 53 [.int .i64 2, .string ⟨#[101, 116, 104, 48]⟩, .string ⟨#[99, 111, 115, 116]⟩, .string ⟨#[x]⟩]).range j u hu
    | succ i => simp at hy
  have hA : Hid (RowsAt 4 lineVals ((w.alloc (.cells #[.int .i64 2, .string ⟨#[101, 116, 104, 48]⟩, .string ⟨#[99, 111, 115, 116]⟩, .string ⟨#[53]⟩] 53)).alloc (.cells #[.int .i64 2, .string ⟨#[101, 116, 104, 48]⟩, .string ⟨#[99, 111, 115, 116]⟩, .string ⟨#[54]⟩] 53)) (.slice (some ⟨w.heap.size, 0, none⟩) 1 1) [lineP 53]) := Lib.hid (one w _ _ _ 53 rfl ((Keeps.refl _ _).alloc _) rfl)
  have hB : Hid (RowsAt 4 lineVals ((w.alloc (.cells #[.int .i64 2, .string ⟨#[101, 116, 104, 48]⟩, .string ⟨#[99, 111, 115, 116]⟩, .string ⟨#[53]⟩] 53)).alloc (.cells #[.int .i64 2, .string ⟨#[101, 116, 104, 48]⟩, .string ⟨#[99, 111, 115, 116]⟩, .string ⟨#[54]⟩] 53)) (.slice (some ⟨w.heap.size + 1, 0, none⟩) 1 1) [lineP 54]) := Lib.hid (one (w.alloc (.cells #[.int .i64 2, .string ⟨#[101, 116, 104, 48]⟩, .string ⟨#[99, 111, 115, 116]⟩, .string ⟨#[53]⟩] 53)) _ _ _ 54 rfl (Keeps.refl _ _) (alloc_size _ _).symm)
  have hk0 : Hid (Keeps (fun _ => False) w ((w.alloc (.cells #[.int .i64 2, .string ⟨#[101, 116, 104, 48]⟩, .string ⟨#[99, 111, 115, 116]⟩, .string ⟨#[53]⟩] 53)).alloc (.cells #[.int .i64 2, .string ⟨#[101, 116, 104, 48]⟩, .string ⟨#[99, 111, 115, 116]⟩, .string ⟨#[54]⟩] 53))) := Lib.hid (((Keeps.refl _ _).alloc _).alloc _)
  clear one
  refine (plMake_c _ _ [lineP 53] [lineP 54] _ hA hB (Lib.hid plans_right.1) (Lib.hid plans_right.2) (Lib.hid (by rw [plans_raw.1]; simp))).mono ?_
  rw [plans_make]
  rintro e w3 ⟨p3, c3, rfl, hR, k3⟩
  have hR3 := Lib.hid hR
  have hk3 := Lib.hid (hk0.out.trans k3)
  clear hR k3 hA hB hk0
  go_wp2_with fail
  refine (plText_any _ [⟨7, [101, 116, 104, 48]⟩] ⟨#[97, 110, 101, 119, 32, 101, 116, 104, 48, 10]⟩ _ hR3 (by simp) (by decide) (Lib.hid rfl)).mono ?_
  rintro e w4 ⟨rfl, k4⟩
  have hk4 := Lib.hid (hk3.out.trans k4)
  clear k4 hR3 hk3
  go_wp2_with fail
  go_ret
  exact ⟨rfl, hk4.out⟩
end Go.Proofs.Ytmclnamgihphcaa
/- The law's To and From of lines, walked (gen_cgc.py). -/
set_option linter.unusedVariables false
set_option linter.unusedSimpArgs false
namespace Go.Proofs.Ytmclnamgihphcaa
open Go.RowKit

def CopyPost (t : TypeId) (ls : List LineD) (w : World) (e : Ending) (w' : World) : Prop :=
  ∃ p c, e = .returned (.slice p ls.length c) ∧ OwnR t 4 lineVals w w' (.slice p ls.length c) ls ∧ Keeps (fun _ => False) w w'

set_option maxRecDepth 100000 in
set_option maxHeartbeats 4000000 in
theorem to_any (v : Value) (ls : List LineD) (w : World) (hv : Hid (RowsAt 4 lineVals w v ls)) (hl : ls.length ≤ 1000000) :
    Calls Try.prog 5 #[v] w (CopyPost 53 ls w) := by
  obtain ⟨p, c, rfl⟩ := hv.out.slice
  obtain ⟨i0, hi0, hi1, hi2, hi3⟩ := lineAll
  go_enter Try.func5, Try.ntmps5
  go_wp2_with fail
  go_loopw [4, 3] (fun iv ov wr => ∃ (k : Nat) (q : Option Addr) (d : Nat), k ≤ ls.length ∧ iv = .int .i64 k ∧ ov = .slice q k d ∧ Hid (OwnR 53 4 lineVals w wr ov (ls.take k)) ∧ Hid (Keeps (fun _ => False) w wr)) (fun iv _ _ => ls.length - (intOf iv).toNat)
  case atStart => exact ⟨0, none, 0, by omega, rfl, rfl, Lib.hid (OwnR.nil _ _ (Nat.le_refl _)), Lib.hid (Keeps.refl _ _)⟩
  case round =>
    obtain ⟨k, qa, d, hk, rfl, rfl, hO, hKw⟩ := hrel
    by_cases hlk : k < ls.length
    · obtain ⟨g, o, rfl, hrows⟩ := hv.out.open (by omega)
      obtain ⟨q, hq⟩ : ∃ q, ls[k]? = some q := ⟨_, List.getElem?_eq_getElem hlk⟩
      obtain ⟨Nq, hN⟩ : ∃ N : ByteArray, N = ⟨q.name.toArray⟩ := ⟨_, rfl⟩
      obtain ⟨Fq, hF⟩ : ∃ N : ByteArray, N = ⟨q.leaf.toArray⟩ := ⟨_, rfl⟩
      obtain ⟨Vq, hV⟩ : ∃ N : ByteArray, N = ⟨q.value.toArray⟩ := ⟨_, rfl⟩
      have hrow : Hid (wr.rangeAt g (o + k * 4) [.int .i64 q.head, .string Nq, .string Fq, .string Vq]) := Lib.hid (by rw [hN, hF, hV]; exact hKw.out.rangeAt (hrows k q hq) id)
      have hgw : Hid (¬ w.heap.size ≤ g) := Lib.hid (by have := World.block_lt_of_cell? w _ (hrows k q hq 0 _ rfl); have h3 : g < w.heap.size := this; omega)
      have hqd : Hid (q = ⟨q.head, Nq.data.toList, Fq.data.toList, Vq.data.toList⟩) := Lib.hid (by rw [hN, hF, hV])
      have hstep : Hid (ls.take (k + 1) = ls.take k ++ [q]) := Lib.hid (by
        obtain ⟨h2, e⟩ := List.getElem?_eq_some_iff.1 hq
        rw [List.take_succ_eq_append_getElem h2, e])
      have htk : Hid ((ls.take k).length = k) := Lib.hid (by rw [List.length_take]; omega)
      have m1 : (0 : Int) ≤ (k : Int) := by omega
      have m2 : (k : Int) < (ls.length : Int) := by omega
      clear hrows hN hF hV hq
      go_upto_region 5 with fail
      refine wp_region_noPanic ?_
      refine wp_region_held_drew (S := (fun W => Keeps (fun i => w.heap.size ≤ i) wr W)) (by kernel_rfl) (((Keeps.refl _ _).drew)) (fun hHeld => ?_)
      refine tk 0 rfl ?_
      refine tk 1 rfl ?_
      refine tk 2 rfl ?_
      refine tk 3 rfl ?_
      refine tk 4 rfl ?_
      refine tkL 5 rfl (yieldsIf_load_cell (by rfl) 3 (.tmp 15) rfl g (o + k * 4 + 0) rfl _ (fun _ s => s.rangeAt hrow.out hgw.out 0 _ rfl) (fun w s => load_int w _ _ _ s)) ?_
      refine tk 6 rfl ?_
      refine tk 7 rfl ?_
      refine tk 8 rfl ?_
      refine tk 9 rfl ?_
      refine tkL 10 rfl (yieldsIf_load_cell (by rfl) 9 (.tmp 20) rfl g (o + k * 4 + 1) rfl _ (fun _ s => s.rangeAt hrow.out hgw.out 1 _ rfl) (fun w s => load_str w _ _ _ s)) ?_
      refine tk 11 rfl ?_
      refine tk 12 rfl ?_
      refine tk 13 rfl ?_
      refine tk 14 rfl ?_
      refine tkL 15 rfl (yieldsIf_load_cell (by rfl) 9 (.tmp 25) rfl g (o + k * 4 + 2) rfl _ (fun _ s => s.rangeAt hrow.out hgw.out 2 _ rfl) (fun w s => load_str w _ _ _ s)) ?_
      refine tk 16 rfl ?_
      refine tk 17 rfl ?_
      refine tk 18 rfl ?_
      refine tk 19 rfl ?_
      refine tkL 20 rfl (yieldsIf_load_cell (by rfl) 9 (.tmp 30) rfl g (o + k * 4 + 3) rfl _ (fun _ s => s.rangeAt hrow.out hgw.out 3 _ rfl) (fun w s => load_str w _ _ _ s)) ?_
      refine tk 21 rfl ?_
      refine stepL 22 rfl (by kernel_rfl) (fun K hK => ?_)
      go_simp
      refine hK.out _ _ ((hHeld.alloc _)) (fun hHeld => ?_)
      clear hK K
      try simp only [Act.put, sA, sZ, sS]
      refine stepL 23 rfl (by kernel_rfl) (fun K hK => ?_)
      rw [if_pos (by rfl)]
      (refine wp_append_r (.tmp 11) (.tmp 33) 29 53 rfl i0 _ 56 Try.underlying29 hi0 hi1 hi2 hi3 rfl (by decide) (by decide) lineVals_len w _ k (ls.take k) htk.out rfl (hO.out.keep (((Keeps.refl (fun _ => False) _).drew).alloc _) (fun _ _ f => f)) _ rfl ⟨q.head, Nq.data.toList, Fq.data.toList, Vq.data.toList⟩ (cells_new rfl _ _) (lineVals_one _) (by omega) ?_; intro q8 d8 w8 hO8 hg8; have hO8' := Lib.hid hO8; have hK8 := Lib.hid (OwnR.keeps (hO.out.keep (((Keeps.refl (fun _ => False) _).drew).alloc _) (fun _ _ f => f)) ((hKw.out.drew).alloc _) hg8); have hg8' := Lib.hid (hg8.k.mono (G := fun i => w.heap.size ≤ i) (fun i e => .inl (hO.out.2.1 i e))); clear hO8 hg8)
      refine hK.out _ _ ((hHeld.trans hg8'.out)) (fun hHeld => ?_)
      clear hK K
      try simp only [Act.put, sA, sZ, sS]
      refine tk 24 rfl ?_
      refine wpAnyH_done (by kernel_rfl) (NoPanic.normal ?_) _
      clear hHeld hg8'
      go_wp2_with fail
      exact ⟨⟨k + 1, q8, d8, by omega, by go_num, rfl, by rw [hstep.out, hqd.out]; exact hO8', hK8⟩, by simp [intOf]; omega⟩
    · obtain rfl : k = ls.length := by omega
      rw [List.take_length] at hO
      go_wp2_with fail
      go_ret
      exact ⟨qa, d, rfl, hO.out, hKw.out⟩

end Go.Proofs.Ytmclnamgihphcaa
/- PlanRaw, walked (gen_plp.py, out of RVE). -/
set_option linter.unusedVariables false
set_option linter.unusedSimpArgs false
namespace Go.Proofs.Ytmclnamgihphcaa
open Go.RowKit

theorem small_take {D : List LineD} {m : Nat} (h : LinesLt D m) (k : Nat) : LinesLt (D.take k) m := fun l hl => h l (List.mem_of_mem_take hl)
theorem small_mono {D : List LineD} {m k : Nat} (h : LinesLt D m) (hk : m ≤ k) : LinesLt D k := fun l hl => by have := h l hl; omega
def lawEndR (w : World) (e : Ending) (w' : World) : Prop := e = .returned (.bool true) ∧ Keeps (fun _ => False) w w'
def ActsLt (fs : List ActD) (m : Nat) : Prop := ∀ f ∈ fs, f.name.length ≤ m
theorem textF_len {fs : List ActD} {m : Nat} (h : ActsLt fs m) : (textF fs).length ≤ fs.length * (m + 11) := by
  induction fs with
  | nil => simp [textF]
  | cons f fs ih =>
    have h1 := ih (fun x hx => h x (List.mem_cons_of_mem _ hx))
    have h2 := h f (List.mem_cons_self ..)
    have h3 := wordF_len f.kind
    have h4 : (pieceF f).length ≤ m + 11 := by
      unfold pieceF
      rw [List.length_append, List.length_append]
      split
      · simp; omega
      · simp; omega
    have e : textF (f :: fs) = pieceF f ++ textF fs := by unfold textF; rw [List.flatMap_cons]
    rw [e, List.length_append, List.length_cons, Nat.add_mul]; omega

theorem make_left (v : Value) (L : List LineD) (n : Int) (w : World) (hv : Hid (RowsAt 4 lineVals w v L)) (hl : L.length ≤ 1000000) (hlt : Hid (LinesLt L 9223372036854775807)) (hn : Hid ((if rightC L = true then 0 else 1) = n)) :
    Calls Try.prog 4 #[v, .slice none 0 0] w (fun e w' => ∃ s, e = .returned (.tuple #[s, .int .i64 n]) ∧ Keeps (fun _ => False) w w') := by
  cases hr : rightC L with
  | true =>
    refine (plMake_c v _ L [] w hv (Lib.hid (RowsAt.nil w)) (Lib.hid hr) (Lib.hid right_nil) (Lib.hid (raw_left hr))).mono ?_
    rintro e w' ⟨p, c, rfl, -, k⟩
    exact ⟨_, by rw [← hn.out, if_pos hr], k⟩
  | false =>
    refine (plMake_no v _ L [] w hv (Lib.hid (RowsAt.nil w)) (by omega) (by simp) hlt (Lib.hid (fun l h => by simp at h)) (Lib.hid (.inl hr))).mono ?_
    rintro e w' ⟨rfl, k⟩
    exact ⟨_, by rw [← hn.out, if_neg (by rw [hr]; exact Bool.false_ne_true)], k⟩
theorem make_right (v : Value) (L : List LineD) (n : Int) (w : World) (hv : Hid (RowsAt 4 lineVals w v L)) (hl : L.length ≤ 1000000) (hlt : Hid (LinesLt L 9223372036854775807)) (hn : Hid ((if rightC L = true then 0 else 1) = n)) :
    Calls Try.prog 4 #[.slice none 0 0, v] w (fun e w' => ∃ s, e = .returned (.tuple #[s, .int .i64 n]) ∧ Keeps (fun _ => False) w w') := by
  cases hr : rightC L with
  | true =>
    refine (plMake_c _ v [] L w (Lib.hid (RowsAt.nil w)) hv (Lib.hid right_nil) (Lib.hid hr) (Lib.hid (raw_right hr))).mono ?_
    rintro e w' ⟨p, c, rfl, -, k⟩
    exact ⟨_, by rw [← hn.out, if_pos hr], k⟩
  | false =>
    refine (plMake_no _ v [] L w (Lib.hid (RowsAt.nil w)) hv (by simp) (by omega) (Lib.hid (fun l h => by simp at h)) hlt (Lib.hid (.inr hr))).mono ?_
    rintro e w' ⟨rfl, k⟩
    exact ⟨_, by rw [← hn.out, if_neg (by rw [hr]; exact Bool.false_ne_true)], k⟩

set_option maxRecDepth 100000 in
set_option maxHeartbeats 8000000 in
theorem planRaw_law (v u : Value) (ls : List LineD) (fs : List ActD) (w : World) (hv : Hid (RowsAt 4 lineVals w v ls)) (hl : ls.length ≤ 1000000000000) (hlt : Hid (LinesLt ls 8796093022000)) (hu : Hid (RowsAt 2 aVals w u fs)) (hfl : fs.length ≤ 1000000000000) (hft : Hid (ActsLt fs 10000000)) :
    Calls Try.prog 3 #[v, u] w (lawEndR w) := by
  obtain ⟨p, c, rfl⟩ := hv.out.slice
  obtain ⟨q, d, rfl⟩ := hu.out.slice
  have hcap : ls.length ≤ c := by
    obtain ⟨p9, c9, e9, -, h9, -⟩ := hv.out
    injection e9 with e1 e2 e3
    subst e3; exact h9
  have hcap2 : fs.length ≤ d := by
    obtain ⟨p9, c9, e9, -, h9, -⟩ := hu.out
    injection e9 with e1 e2 e3
    subst e3; exact h9
  obtain ⟨nl, hnl⟩ : ∃ n : Nat, n = min ls.length 20 := ⟨_, rfl⟩
  obtain ⟨nf, hnf⟩ : ∃ n : Nat, n = min fs.length 20 := ⟨_, rfl⟩
  have m1 : min (ls.length : Int) 20 = (nl : Int) := by omega
  have m2 : min (fs.length : Int) 20 = (nf : Int) := by omega
  have m3 : (nl : Int) ≤ (c : Int) := by omega
  have m4 : (nf : Int) ≤ (d : Int) := by omega
  have m5 : (0 : Int) ≤ (nl : Int) := by omega
  have m6 : (0 : Int) ≤ (nf : Int) := by omega
  have hL : (ls.take nl).length = nl := by rw [List.length_take]; omega
  have hF : (fs.take nf).length = nf := by rw [List.length_take]; omega
  have hR := Lib.hid (hv.out.take nl (by omega))
  have hG := Lib.hid (hu.out.take nf (by omega))
  have hlt1 := Lib.hid (small_take hlt.out nl)
  have hft1 : Hid (ActsLt (fs.take nf) 10000000) := Lib.hid (fun l hl => hft.out l (List.mem_of_mem_take hl))
  have n1 : nl ≤ 20 := by omega
  have n2 : nf ≤ 20 := by omega
  have hL' := Lib.hid hL
  have hF' := Lib.hid hF
  clear hnl hnf hL hF hv hu hlt hft hcap hcap2
  go_enter Try.func3, Try.ntmps3
  go_upto_region 1 with fail
  refine wp_region_noPanic ?_
  refine wp_region_held_drew (S := (fun W => W = w.drew)) (by kernel_rfl) ((rfl)) (fun hHeld => ?_)
  refine tk 0 rfl ?_
  refine tk 1 rfl ?_
  refine tk 2 rfl ?_
  refine tk 3 rfl ?_
  refine tk 4 (v := .slice p nl c) (hy := fun wS hSw => by go_simp) rfl ?_
  refine tk 5 rfl ?_
  refine tk 6 rfl ?_
  refine tk 7 rfl ?_
  refine tk 8 rfl ?_
  refine tk 9 (v := .slice q nf d) (hy := fun wS hSw => by go_simp) rfl ?_
  refine tk 10 rfl ?_
  refine tk 11 rfl ?_
  refine wpAnyH_done (by kernel_rfl) (NoPanic.normal ?_) _
  clear hHeld
  obtain ⟨L, hLe⟩ : ∃ L, ls.take nl = L := ⟨_, rfl⟩
  obtain ⟨F, hFe⟩ : ∃ L, fs.take nf = L := ⟨_, rfl⟩
  rw [hLe] at hR hlt1 hL'
  rw [hFe] at hG hft1 hF'
  obtain rfl : L.length = nl := hL'.out
  obtain rfl : F.length = nf := hF'.out
  have hR0 := Lib.hid (hR.out.keep ((Keeps.refl (fun _ => False) _).drew))
  have hG0 := Lib.hid (hG.out.keep ((Keeps.refl (fun _ => False) _).drew))
  have k0 := Lib.hid ((Keeps.refl (fun _ => False) w).drew)
  clear hLe hFe hL' hF' m1 m2 m3 m4 m5 m6 hR hG
  generalize hw0 : w.drew = w0 at hR0 hG0 k0 ⊢
  clear hw0
  obtain ⟨xe, hxe⟩ : ∃ n : Int, (if rightC L = true then 0 else 1) = n := ⟨_, rfl⟩
  have hxe' := Lib.hid hxe
  clear hxe
  go_wp2_with fail
  refine (to_any _ L _ hR0 (by omega)).mono ?_
  rintro e w1 ⟨p1, c1, rfl, hO1, k1⟩
  have hC1 := Lib.hid (hO1.at lineVals_len)
  have hR1 := Lib.hid (hR0.out.keep k1)
  have hG1 := Lib.hid (hG0.out.keep k1)
  have hk1 := Lib.hid (k0.out.trans k1)
  clear hO1 k1 hR0 hG0 k0
  go_wp2_with fail
  refine (make_left _ L xe _ hC1 (by omega) (Lib.hid (small_mono hlt1.out (by omega))) hxe').mono ?_
  rintro e w2 ⟨s2, rfl, k2⟩
  have hR2 := Lib.hid (hR1.out.keep k2)
  have hG2 := Lib.hid (hG1.out.keep k2)
  have hk2 := Lib.hid (hk1.out.trans k2)
  clear k2 hR1 hG1 hk1 hC1
  go_wp2_with fail
  refine (to_any _ L _ hR2 (by omega)).mono ?_
  rintro e w3 ⟨p3, c3, rfl, hO3, k3⟩
  have hC3 := Lib.hid (hO3.at lineVals_len)
  have hR3 := Lib.hid (hR2.out.keep k3)
  have hG3 := Lib.hid (hG2.out.keep k3)
  have hk3 := Lib.hid (hk2.out.trans k3)
  clear hO3 k3 hR2 hG2 hk2
  go_wp2_with fail
  refine (make_right _ L xe _ hC3 (by omega) (Lib.hid (small_mono hlt1.out (by omega))) hxe').mono ?_
  rintro e w2 ⟨s4, rfl, k4⟩
  have hR2 := Lib.hid (hR3.out.keep k4)
  have hG2 := Lib.hid (hG3.out.keep k4)
  have hk2 := Lib.hid (hk3.out.trans k4)
  clear k4 hR3 hG3 hk3 hC3
  obtain ⟨i0, hi0, hi1, hi2, hi3⟩ := actAll
  go_wp2_with fail
  go_loopw [10, 9] (fun iv ov wr => ∃ (k : Nat) (qa : Option Addr) (dd : Nat), k ≤ F.length ∧ iv = .int .i64 k ∧ ov = .slice qa k dd ∧ Hid (OwnR 33 2 aVals w2 wr ov (F.take k)) ∧ Hid (Keeps (fun _ => False) w2 wr)) (fun iv _ _ => F.length - (intOf iv).toNat)
  case atStart => exact ⟨0, none, 0, by omega, rfl, rfl, Lib.hid (OwnR.nil _ _ (Nat.le_refl _)), Lib.hid (Keeps.refl _ _)⟩
  case round =>
    obtain ⟨k, qa, dd, hk, rfl, rfl, hO, hKw⟩ := hrel
    by_cases hlk : k < F.length
    · obtain ⟨g, o, rfl, hrows⟩ := hG2.out.open (by omega)
      obtain ⟨f, hq⟩ : ∃ q, F[k]? = some q := ⟨_, List.getElem?_eq_getElem hlk⟩
      obtain ⟨N, hN⟩ : ∃ N : ByteArray, N = ⟨f.name.toArray⟩ := ⟨_, rfl⟩
      have hrow : Hid (wr.rangeAt g (o + k * 2) [.int .i64 f.kind, .string N]) := Lib.hid (by rw [hN]; exact hKw.out.rangeAt (hrows k f hq) id)
      have hgw : Hid (¬ w2.heap.size ≤ g) := Lib.hid (by have := World.block_lt_of_cell? w2 _ (hrows k f hq 0 _ rfl); have h3 : g < w2.heap.size := this; omega)
      have hqd : Hid (f = ⟨f.kind, N.data.toList⟩) := Lib.hid (by rw [hN])
      have hstep : Hid (F.take (k + 1) = F.take k ++ [f]) := Lib.hid (by
        obtain ⟨h2, e⟩ := List.getElem?_eq_some_iff.1 hq
        rw [List.take_succ_eq_append_getElem h2, e])
      have htk : Hid ((F.take k).length = k) := Lib.hid (by rw [List.length_take]; omega)
      have m1 : (0 : Int) ≤ (k : Int) := by omega
      have m2 : (k : Int) < (F.length : Int) := by omega
      clear hrows hN hq
      go_upto_region 8 with fail
      refine wp_region_noPanic ?_
      refine wp_region_held_drew (S := (fun W => Keeps (fun i => w2.heap.size ≤ i) wr W)) (by kernel_rfl) (((Keeps.refl _ _).drew)) (fun hHeld => ?_)
      refine tk 0 rfl ?_
      refine tk 1 rfl ?_
      refine tk 2 rfl ?_
      refine tk 3 rfl ?_
      refine tk 4 rfl ?_
      refine tkL 5 rfl (yieldsIf_load_cell (by rfl) 3 (.tmp 43) rfl g (o + k * 2 + 0) rfl _ (fun _ s => s.rangeAt hrow.out hgw.out 0 _ rfl) (fun w s => load_int w _ _ _ s)) ?_
      refine tk 6 rfl ?_
      refine tk 7 rfl ?_
      refine tk 8 rfl ?_
      refine tk 9 rfl ?_
      refine tkL 10 rfl (yieldsIf_load_cell (by rfl) 9 (.tmp 48) rfl g (o + k * 2 + 1) rfl _ (fun _ s => s.rangeAt hrow.out hgw.out 1 _ rfl) (fun w s => load_str w _ _ _ s)) ?_
      refine tk 11 rfl ?_
      refine stepL 12 rfl (by kernel_rfl) (fun K hK => ?_)
      go_simp
      refine hK.out _ _ ((hHeld.alloc _)) (fun hHeld => ?_)
      clear hK K
      try simp only [Act.put, sA, sZ, sS]
      refine stepL 13 rfl (by kernel_rfl) (fun K hK => ?_)
      rw [if_pos (by rfl)]
      (refine wp_append_r (.tmp 39) (.tmp 51) 24 33 rfl i0 _ 24 Try.underlying24 hi0 hi1 hi2 hi3 rfl (by decide) (by decide) aVals_len w2 _ k (F.take k) htk.out rfl (hO.out.keep (((Keeps.refl (fun _ => False) _).drew).alloc _) (fun _ _ f => f)) _ rfl ⟨f.kind, N.data.toList⟩ (cells_new rfl _ _) (aVals_one _) (by omega) ?_; intro q8 d8 w8 hO8 hg8; have hO8' := Lib.hid hO8; have hK8 := Lib.hid (OwnR.keeps (hO.out.keep (((Keeps.refl (fun _ => False) _).drew).alloc _) (fun _ _ f => f)) ((hKw.out.drew).alloc _) hg8); have hg8' := Lib.hid (hg8.k.mono (G := fun i => w2.heap.size ≤ i) (fun i e => .inl (hO.out.2.1 i e))); clear hO8 hg8)
      refine hK.out _ _ ((hHeld.trans hg8'.out)) (fun hHeld => ?_)
      clear hK K
      try simp only [Act.put, sA, sZ, sS]
      refine tk 14 rfl ?_
      refine wpAnyH_done (by kernel_rfl) (NoPanic.normal ?_) _
      clear hHeld hg8'
      go_wp2_with fail
      exact ⟨⟨k + 1, q8, d8, by omega, by go_num, rfl, by rw [hstep.out, hqd.out]; exact hO8', hK8⟩, by simp [intOf]; omega⟩
    · obtain rfl : k = F.length := by omega
      rw [List.take_length] at hO
      have hX := Lib.hid (hO.out.at aVals_len)
      have hR3 := Lib.hid (hR2.out.keep hKw.out)
      have hG3 := Lib.hid (hG2.out.keep hKw.out)
      have hk3 := Lib.hid (hk2.out.trans hKw.out)
      clear hO hKw hR2 hG2 hk2 hlk hk
      have hzz := textF_len hft1.out
      have hz : (textF F).length ≤ 1000000000 := by
        have : F.length * (10000000 + 11) ≤ 20 * (10000000 + 11) := Nat.mul_le_mul_right _ n2
        omega
      obtain ⟨T, hT⟩ : ∃ T : ByteArray, T = ⟨(textF F).toArray⟩ := ⟨_, rfl⟩
      have hT' := Lib.hid hT
      clear hzz hT
      go_wp2_with fail
      refine (plans_any _).mono ?_
      rintro e w5 ⟨rfl, k5⟩
      have hX5 := Lib.hid (hX.out.keep k5)
      have hR5 := Lib.hid (hR3.out.keep k5)
      have hG5 := Lib.hid (hG3.out.keep k5)
      have hk5 := Lib.hid (hk3.out.trans k5)
      clear k5 hX hR3 hG3 hk3
      have hLn := Lib.hid hR5.out.lines
      cases hz1 : rightC L with
      | true =>
        have hxe : xe = 0 := by have h := hxe'.out; rw [if_pos hz1] at h; exact h.symm
        have hz1' := Lib.hid hz1
        subst hxe
        clear hz1 hxe'
        go_wp2_with fail
        refine (rRight_c _ L _ _ hLn (by omega) hlt1 hz1').mono ?_
        rintro e w6 ⟨rfl, k6⟩
        have hX6 := Lib.hid (hX5.out.keep k6)
        have hG6 := Lib.hid (hG5.out.keep k6)
        have hk6 := Lib.hid (hk5.out.trans k6)
        clear k6 hX5 hG5 hk5 hz1' hLn hR5
        go_wp2_with fail
        refine (plText_any _ F T _ hX6 (by omega) hz hT').mono ?_
        rintro e w7 ⟨rfl, k7⟩
        have hG7 := Lib.hid (hG6.out.keep k7)
        have hk7 := Lib.hid (hk6.out.trans k7)
        clear k7 hX6 hG6 hk6
        go_wp2_with fail
        refine (r17Text_any _ F T _ hG7 (by omega) hz hT').mono ?_
        rintro e w8 ⟨rfl, k8⟩
        have hk8 := Lib.hid (hk7.out.trans k8)
        clear k8 hG7 hk7
        go_wp2_with fail
        go_ret
        exact ⟨rfl, hk8.out⟩
      | false =>
        have hxe : xe = 1 := by have h := hxe'.out; rw [if_neg (by rw [hz1]; exact Bool.false_ne_true)] at h; exact h.symm
        have hz1' := Lib.hid hz1
        subst hxe
        clear hz1 hxe'
        go_wp2_with fail
        refine (rRight_c _ L _ _ hLn (by omega) hlt1 hz1').mono ?_
        rintro e w6 ⟨rfl, k6⟩
        have hX6 := Lib.hid (hX5.out.keep k6)
        have hG6 := Lib.hid (hG5.out.keep k6)
        have hk6 := Lib.hid (hk5.out.trans k6)
        clear k6 hX5 hG5 hk5 hz1' hLn hR5
        go_wp2_with fail
        refine (plText_any _ F T _ hX6 (by omega) hz hT').mono ?_
        rintro e w7 ⟨rfl, k7⟩
        have hG7 := Lib.hid (hG6.out.keep k7)
        have hk7 := Lib.hid (hk6.out.trans k7)
        clear k7 hX6 hG6 hk6
        go_wp2_with fail
        refine (r17Text_any _ F T _ hG7 (by omega) hz hT').mono ?_
        rintro e w8 ⟨rfl, k8⟩
        have hk8 := Lib.hid (hk7.out.trans k8)
        clear k8 hG7 hk7
        go_wp2_with fail
        go_ret
        exact ⟨rfl, hk8.out⟩
end Go.Proofs.Ytmclnamgihphcaa
