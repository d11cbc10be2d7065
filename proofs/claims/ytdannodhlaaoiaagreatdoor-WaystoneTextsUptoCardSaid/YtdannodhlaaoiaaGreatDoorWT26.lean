/- conf.Text of any right configuration, walked (gen_cgr.py). -/
import Derived.Test.YtdannodhlaaoiaaGreatDoorWT24
import Derived.Test.YtdannodhlaaoiaaGreatDoorWT25
set_option linter.unusedVariables false
set_option linter.unusedSimpArgs false
set_option linter.unusedVariables false
set_option linter.unusedSimpArgs false
namespace Go.Proofs.YtdannodhlaaoiaaGreatDoor
open Go.RowKit

def headC (h : Int) : List UInt8 := if h = 1 then [97, 114, 101, 97] else [105, 110, 116, 101, 114, 102, 97, 99, 101]
def sameC (a b : LineD) : Bool := decide (a.head = b.head) && decide (a.name = b.name)
def writtenC (q : LineD) : List UInt8 := q.leaf ++ [32] ++ q.value ++ [59, 10]
def firstC (p : Option LineD) (q : LineD) : List UInt8 := match p with
  | some p => if sameC p q = true then [] else headC q.head ++ [32] ++ q.name ++ [32, 123, 10]
  | none => headC q.head ++ [32] ++ q.name ++ [32, 123, 10]
def lastC (q : LineD) (n : Option LineD) : List UInt8 := match n with
  | some n => if sameC q n = true then [] else [125, 10]
  | none => [125, 10]
def pieceC (p : Option LineD) (q : LineD) (n : Option LineD) : List UInt8 := if q.head = 0 then writtenC q else firstC p q ++ ([32, 32] ++ writtenC q) ++ lastC q n
def textK (ls : List LineD) : Nat → List UInt8
  | 0 => []
  | k + 1 => textK ls k ++ (match ls[k]? with | some q => pieceC (prevOf ls k) q (ls[k + 1]?) | none => [])
theorem textK_step {ls : List LineD} {k : Nat} {q : LineD} (hq : ls[k]? = some q) : textK ls (k + 1) = textK ls k ++ pieceC (prevOf ls k) q (ls[k + 1]?) := by rw [textK, hq]
theorem headC_len (h : Int) : (headC h).length ≤ 9 := by unfold headC; split <;> simp
theorem firstC_len (p : Option LineD) {q : LineD} (hs : q.name.length ≤ 100) : (firstC p q).length ≤ 120 := by
  have := headC_len q.head
  unfold firstC
  split
  · split
    · simp
    · simp; omega
  · simp; omega
theorem lastC_len (q : LineD) (n : Option LineD) : (lastC q n).length ≤ 2 := by
  unfold lastC
  split
  · split <;> simp
  · simp
theorem pieceC_len (p n : Option LineD) {q : LineD} (hs : q.name.length ≤ 100 ∧ q.leaf.length ≤ 100 ∧ q.value.length ≤ 100) : (pieceC p q n).length ≤ 400 := by
  have h1 := firstC_len p hs.1
  have h2 := lastC_len q n
  unfold pieceC writtenC
  split
  · simp; omega
  · simp; omega
theorem textK_len {ls : List LineD} (hs : ∀ q ∈ ls, q.name.length ≤ 100 ∧ q.leaf.length ≤ 100 ∧ q.value.length ≤ 100) : ∀ k, (textK ls k).length ≤ 400 * k := by
  intro k
  induction k with
  | zero => simp [textK]
  | succ k ih =>
    cases hq : ls[k]? with
    | none => rw [textK, hq]; simp; omega
    | some q =>
      rw [textK_step hq, List.length_append]
      have := pieceC_len (prevOf ls k) (ls[k + 1]?) (hs q (List.mem_of_getElem? hq))
      omega
theorem headWord_any (h : Int) (S : ByteArray) (w : World) (hS : Hid (S = ⟨(headC h).toArray⟩)) : Calls Tryz.prog 29 #[.int .i64 h] w (NewRes (.string S) w) := by
  by_cases h1 : h = 1
  · have e : S = ⟨#[97, 114, 101, 97]⟩ := by rw [hS.out]; unfold headC; rw [if_pos h1]
    subst h1
    rw [e]; exact headWord_one w
  · have e : S = ⟨#[105, 110, 116, 101, 114, 102, 97, 99, 101]⟩ := by rw [hS.out]; unfold headC; rw [if_neg h1]
    have e1 : (h == 1) = false := by simpa using h1
    rw [e]
    clear h1 e hS
    go_enter Tryz.func29, Tryz.ntmps29
    go_wp2
    go_ret
    exact ⟨rfl, Keeps.refl _ _⟩

set_option maxRecDepth 100000 in
set_option maxHeartbeats 16000000 in
theorem text_c (v : Value) (ls : List LineD) (T : ByteArray) (w : World) (hv : Hid (RowsAt 4 lineVals w v ls)) (hr : Hid (rightC ls = true)) (hT : Hid (T = ⟨(textK ls ls.length).toArray⟩)) :
    Calls Tryz.prog 7 #[v] w (NewRes (.string T) w) := by
  have hlen := right_len hr.out
  have hlt := Lib.hid (right_lt hr.out 9223372036854775807 (by omega))
  have hsm := Lib.hid (fun q hq => line_small (right_line hr.out q hq))
  have htl := Lib.hid (textK_len hsm.out)
  obtain ⟨p, c, rfl⟩ := hv.out.slice
  have hLn := Lib.hid hv.out.lines
  go_enter Tryz.func7, Tryz.ntmps7
  go_wp2_with fail
  refine (right_c _ ls true _ hLn (by omega) hlt hr).mono ?_
  rintro e w2 ⟨rfl, k2⟩
  have k2' := Lib.hid k2
  have hv2 := Lib.hid (hv.out.keep k2)
  clear k2 hLn hlt hr hv
  have hI0 := Lib.hid (IsB.new w2)
  have hK0 : Hid (KeepsT w2.heap.size w2 (w2.alloc (.cells #[.pointer none, .slice none 0 0] 74))) := Lib.hid (KeepsT.of ((Keeps.refl _ _).alloc _))
  go_wp2_with fail
  go_loopw [11] (fun iv wr => ∃ (k : Nat), k ≤ ls.length ∧ iv = .int .i64 k ∧ Hid (IsB w2.heap.size w2.heap.size (Lib.byteCells (textK ls k)) wr) ∧ Hid (KeepsT w2.heap.size w2 wr)) (fun iv _ => ls.length - (intOf iv).toNat)
  case atStart => exact ⟨0, by omega, rfl, hI0, hK0⟩
  case round =>
    obtain ⟨k, hk, rfl, hI, hKr⟩ := hrel
    have htk := htl.out k
    by_cases hlk : k < ls.length
    · obtain ⟨g, o, rfl, hrows⟩ := hv2.out.open (by omega)
      obtain ⟨q, hq⟩ : ∃ q, ls[k]? = some q := ⟨_, List.getElem?_eq_getElem hlk⟩
      obtain ⟨z1, z2, z3⟩ := hsm.out q (List.mem_of_getElem? hq)
      obtain ⟨N, hN⟩ : ∃ N : ByteArray, N = ⟨q.name.toArray⟩ := ⟨_, rfl⟩
      obtain ⟨F, hF⟩ : ∃ N : ByteArray, N = ⟨q.leaf.toArray⟩ := ⟨_, rfl⟩
      obtain ⟨V, hV⟩ : ∃ N : ByteArray, N = ⟨q.value.toArray⟩ := ⟨_, rfl⟩
      have sN : N.size ≤ 100 := by rw [hN]; exact z1
      have sF : F.size ≤ 100 := by rw [hF]; exact z2
      have sV : V.size ≤ 100 := by rw [hV]; exact z3
      have hgw : Hid (¬ w2.heap.size ≤ g) := Lib.hid (by have := World.block_lt_of_cell? w2 _ (hrows k q hq 0 _ rfl); have h3 : g < w2.heap.size := this; omega)
      have hrw : Hid (wr.rangeAt g (o + k * 4) [.int .i64 q.head, .string N, .string F, .string V]) := Lib.hid (by rw [hN, hF, hV]; exact hKr.out.k.rangeAt (hrows k q hq) hgw.out)
      have hNl : Hid (N.data.toList = q.name) := Lib.hid (by rw [hN])
      obtain ⟨T2, h2⟩ : ∃ T2 : ByteArray, T2 = F ++ ⟨#[32]⟩ ++ V ++ ⟨#[59, 10]⟩ := ⟨_, rfl⟩
      have hT2l : Hid (T2.data.toList = writtenC q) := Lib.hid (by rw [h2, hF, hV]; unfold writtenC; simp)
      have s2 : T2.size ≤ 210 := by rw [h2]; simp only [ByteArray.size_append]; show F.size + 1 + V.size + 2 ≤ 210; omega
      obtain ⟨T3, h3⟩ : ∃ T3 : ByteArray, T3 = ⟨#[32, 32]⟩ ++ T2 := ⟨_, rfl⟩
      have hT3l : Hid (T3.data.toList = [32, 32] ++ writtenC q) := Lib.hid (by rw [h3, ← hT2l.out]; simp)
      have s3 : T3.size ≤ 220 := by rw [h3]; simp only [ByteArray.size_append]; show 2 + T2.size ≤ 220; omega
      have h2' := Lib.hid h2; have h3' := Lib.hid h3
      have hstep := Lib.hid (textK_step hq)
      have hrows' := Lib.hid hrows
      have hq' := Lib.hid hq
      have hBx : Hid (BlkAt (wr.alloc (.cells #[.int .i64 q.head, .string N, .string F, .string V] 50)) wr.heap.size 50 [.int .i64 q.head, .string N, .string F, .string V]) := Lib.hid (BlkAt.new _ _ _)
      have hIx : Hid (IsB w2.heap.size w2.heap.size (Lib.byteCells (textK ls k)) (wr.alloc (.cells #[.int .i64 q.head, .string N, .string F, .string V] 50))) := Lib.hid (hI.out.keep ((Keeps.refl _ _).alloc _))
      have hKx : Hid (KeepsT w2.heap.size w2 (wr.alloc (.cells #[.int .i64 q.head, .string N, .string F, .string V] 50))) := Lib.hid (hKr.out.trans (KeepsT.of ((Keeps.refl _ _).alloc _)))
      have m1 : (0 : Int) ≤ (k : Int) := by omega
      have m2 : (k : Int) < (ls.length : Int) := by omega
      obtain ⟨U, hU⟩ : ∃ U, textK ls k = U := ⟨_, rfl⟩
      have hUl : U.length ≤ 30000 := by rw [← hU]; omega
      rw [hU] at hIx hstep
      clear hrows hN hF hV h2 h3 hq z1 z2 z3 hI hI0 hK0 htk hU
      have c0 := hBx.out.cell 0 _ rfl
      go_upto_region 7 with (first | ((with_reducible refine at_slot 15 ?_); refine wpList_load_mid rfl 50 (.tmp 14) rfl g (o + k * 4) rfl [.int .i64 q.head, .string N, .string F, .string V] _ hrw.out Tryz.underlying50 rfl lineInfo ?_) | ((with_reducible refine at_store 5 ?_); refine wpList_store_new rfl 50 (.tmp 5) (.tmp 15) rfl _ #[.int .i64 q.head, .string N, .string F, .string V] rfl rfl lineInfo rfl (line_one _ _ _ _) ?_))
      generalize hgx : wr.heap.size = gx at hBx c0 ⊢
      generalize hWx : wr.alloc (.cells #[.int .i64 q.head, .string N, .string F, .string V] 50) = Wx at hBx hIx hKx c0 ⊢
      clear hgx hWx hrw hKr
      by_cases a0 : q.head = 0
      · have e0 : (q.head == 0) = true := by simp [a0]
        have a0' := Lib.hid a0; clear a0
        go_wp2_with ((with_reducible refine at_slot 19 ?_); refine wpList_load_mid rfl 50 (.tmp 5) rfl gx 0 rfl [.int .i64 q.head, .string N, .string F, .string V] _ hBx.out.range Tryz.underlying50 rfl lineInfo ?_)
        refine (written_any q.head N F V T2 _ (by omega) (by omega) h2').mono ?_
        rintro e w6 ⟨rfl, k6⟩
        have hI6 := Lib.hid (hIx.out.keep k6)
        have hK6 := Lib.hid (hKx.out.trans (KeepsT.of k6))
        clear k6
        go_wp2_with fail
        refine (writeString_any _ _ _ T2 _ hI6.out (by omega) (by have := hK6.out.k.size; omega)).mono ?_
        rintro e w7 ⟨rfl, i7, k7⟩
        have hI7 := Lib.hid i7
        have hK7 := Lib.hid (hK6.out.trans k7)
        have hfin : Hid (textK ls (k + 1) = U ++ T2.data.toList) := Lib.hid (by rw [hstep.out, hT2l.out]; unfold pieceC; rw [if_pos a0'.out])
        clear i7 k7 hI6 hK6 c0
        go_wp2_with fail
        exact ⟨⟨k + 1, by omega, by go_num, by rw [hfin.out]; exact hI7, hK7⟩, by simp [intOf]; omega⟩
      · have e0 : (q.head == 0) = false := by simpa using a0
        have a0' := Lib.hid a0; clear a0
        cases k with
        | zero =>
          go_upto_region 9 with fail
          clear c0
          refine wp_region_noPanic ?_
          refine wp_region_held_drew (S := (fun W => Keeps (fun _ => False) Wx W)) (by kernel_rfl) (((Keeps.refl _ _).drew)) (fun hHeld => ?_)
          refine tk 0 rfl ?_
          refine tk 1 rfl ?_
          refine tk 2 rfl ?_
          refine tkS 3 rfl ?_
          refine tkS 4 rfl ?_
          refine tkS 5 rfl ?_
          refine tkS 6 rfl ?_
          refine tkS 7 rfl ?_
          refine tkS 8 rfl ?_
          refine tkS 9 rfl ?_
          refine tkS 10 rfl ?_
          refine tk 11 rfl ?_
          refine wpAnyH_done (by kernel_rfl) (NoPanic.normal ?_) _
          have hBf := Lib.hid (hBx.out.keep hHeld id)
          have hIf := Lib.hid (hIx.out.keep hHeld)
          have hKf := Lib.hid (hKx.out.trans (KeepsT.of hHeld))
          clear hHeld hBx hIx hKx
          obtain ⟨HW, hHW⟩ : ∃ S : ByteArray, S = ⟨(headC q.head).toArray⟩ := ⟨_, rfl⟩
          have sHW : HW.size ≤ 9 := by rw [hHW]; exact headC_len q.head
          obtain ⟨T1, h1⟩ : ∃ T : ByteArray, T = HW ++ ⟨#[32]⟩ ++ N ++ ⟨#[32, 123, 10]⟩ := ⟨_, rfl⟩
          have hT1l : Hid (T1.data.toList = headC q.head ++ [32] ++ q.name ++ [32, 123, 10]) := Lib.hid (by rw [h1, hHW, ← hNl.out]; simp)
          have s1 : T1.size ≤ 120 := by rw [h1]; simp only [ByteArray.size_append]; show HW.size + 1 + N.size + 3 ≤ 120; omega
          have eT1 : Hid (T1.data.toList.length = T1.size) := Lib.hid (by simp)
          have hHW' := Lib.hid hHW; have h1' := Lib.hid h1
          clear hHW h1
          go_upto_region 10 with fail
          generalize hWy : Wx.drew = Wy at hIf hKf hBf ⊢
          clear hWy
          refine wp_region_noPanic ?_
          refine wp_region_held_drew (S := (fun W => KeepsT w2.heap.size Wy W)) (by kernel_rfl) ((KeepsT.of (Keeps.refl _ _).drew)) (fun hHeld => ?_)
          refine tk 0 rfl ?_
          refine tkL 1 rfl (yieldsIf_load_cell (by rfl) 3 (.tmp 34) rfl gx 0 rfl _ (fun _ s => (KeepsT.blk s hBf.out (by decide) (by decide)).cell 0 _ rfl) (fun w s => load_int w _ _ _ s)) ?_
          refine tk 4 rfl ?_
          refine tkL 5 rfl (yieldsIf_load_cell (by rfl) 9 (.tmp 38) rfl gx 1 rfl _ (fun _ s => (KeepsT.blk s hBf.out (by decide) (by decide)).cell 1 _ rfl) (fun w s => load_str w _ _ _ s)) ?_
          refine stepL 2 rfl (by kernel_rfl) (fun K hK => ?_)
          go_simp
          (refine (headWord_any q.head HW _ hHW').mono ?_; rintro e w4 ⟨rfl, k4⟩; have k4' := Lib.hid k4; have hI4 := Lib.hid (hIf.out.keep (((Keeps.refl _ _).drew).trans k4)); clear k4)
          go_wp2_with fail
          refine hK.out _ _ ((KeepsT.trans hHeld (KeepsT.of k4'.out))) (fun hHeld => ?_)
          clear hK K
          try simp only [Act.put, sA, sZ, sS]
          refine tk 3 (v := .string (HW ++ ⟨#[32]⟩)) (hy := fun wS hSw => by go_simp; try omega) rfl ?_
          refine tk 6 (v := .string (HW ++ ⟨#[32]⟩ ++ N)) (hy := fun wS hSw => by go_simp; try omega) rfl ?_
          refine tk 7 (v := .string T1) (hy := fun wS hSw => by rw [h1'.out]; go_simp; try omega) rfl ?_
          refine stepL 8 rfl (by kernel_rfl) (fun K hK => ?_)
          go_simp
          (refine (writeString_any _ _ U T1 _ hI4.out (by omega) (by have := hKf.out.k.size; have := hHeld.k.size; omega)).mono ?_; rintro e w5 ⟨rfl, i5, k5⟩; have k5' := Lib.hid k5; have hI5 := Lib.hid i5; clear k5 i5 hI4)
          go_wp2_with fail
          refine hK.out _ _ ((KeepsT.trans hHeld k5'.out)) (fun hHeld => ?_)
          clear hK K
          try simp only [Act.put, sA, sZ, sS]
          refine wpAnyH_done (by kernel_rfl) (NoPanic.normal ?_) _
          have hB5 := Lib.hid (hHeld.blk hBf.out (by decide) (by decide))
          have hK5 := Lib.hid (hKf.out.trans hHeld)
          have hfirst : Hid (firstC (prevOf ls 0) q = T1.data.toList) := Lib.hid (by rw [hT1l.out]; rfl)
          clear hHeld hBf hIf hKf k4' k5'
          go_wp2_with ((with_reducible refine at_slot 43 ?_); refine wpList_load_mid rfl 50 (.tmp 5) rfl gx 0 rfl [.int .i64 q.head, .string N, .string F, .string V] _ hB5.out.range Tryz.underlying50 rfl lineInfo ?_)
          refine (written_any q.head N F V T2 _ (by omega) (by omega) h2').mono ?_
          rintro e w6 ⟨rfl, k6⟩
          have hI6 := Lib.hid (hI5.out.keep k6)
          have hK6 := Lib.hid (hK5.out.trans (KeepsT.of k6))
          have hB6 := Lib.hid (hB5.out.keep k6 id)
          clear k6 hI5 hK5 hB5
          go_wp2_with fail
          rw [← h3'.out]
          have hsz6 : (U ++ T1.data.toList).length + T3.size ≤ 1000000000 := by (try simp only [List.length_append]); first | omega | (have := eT1.out; omega)
          refine (writeString_any _ _ (U ++ T1.data.toList) T3 _ hI6.out hsz6 (by have := hK6.out.k.size; omega)).mono ?_
          rintro e w7 ⟨rfl, i7, k7⟩
          have hI7 := Lib.hid i7
          have hB7 := Lib.hid (k7.blk hB6.out (by decide) (by decide))
          have hK7 := Lib.hid (hK6.out.trans k7)
          clear i7 k7 hI6 hK6 hB6 hsz6
          go_upto_region 12 with fail
          have hwn : IntKind.i64.wrap ((ls.length : Int) - 1) = (ls.length : Int) - 1 := IntWalk.i64_in _ (by omega)
          by_cases hlast : 0 + 1 = ls.length
          · have el : ((0 : Int) == (ls.length : Int) - 1) = true := by simp; omega
            have hlastC : Hid (lastC q (ls[0 + 1]?) = [125, 10]) := Lib.hid (by rw [List.getElem?_eq_none (by omega)]; rfl)
            clear hlast
            refine wp_region_noPanic ?_
            refine wp_region_held_drew (S := (fun W => Keeps (fun _ => False) w7 W)) (by kernel_rfl) (((Keeps.refl _ _).drew)) (fun hHeld => ?_)
            refine tk 0 rfl ?_
            refine tk 1 rfl ?_
            refine tk 2 rfl ?_
            refine tk 3 rfl ?_
            refine tk 4 rfl ?_
            refine tk 5 rfl ?_
            refine tkS 6 rfl ?_
            refine tkS 7 rfl ?_
            refine tkS 8 rfl ?_
            refine tkS 9 rfl ?_
            refine tkS 10 rfl ?_
            refine tkS 11 rfl ?_
            refine tkS 12 rfl ?_
            refine tkS 13 rfl ?_
            refine tk 14 rfl ?_
            refine wpAnyH_done (by kernel_rfl) (NoPanic.normal ?_) _
            have hI8 := Lib.hid (hI7.out.keep hHeld)
            have hK8 := Lib.hid (hK7.out.trans (KeepsT.of hHeld))
            clear hHeld hI7 hK7
            have hlW : (U ++ T1.data.toList ++ T3.data.toList).length + (⟨#[125, 10]⟩ : ByteArray).size ≤ 1000000000 := by
              have e3 : T3.data.toList.length = T3.size := by simp
              simp only [List.length_append, e3]
              show _ + 2 ≤ _
              first | omega | (have := eT1.out; omega)
            have hwc := Lib.hid (writeString_any _ _ _ ⟨#[125, 10]⟩ _ hI8.out hlW hK8.out.k.size)
            clear hlW hI8
            have hfin : Hid (textK ls (0 + 1) = U ++ T1.data.toList ++ T3.data.toList ++ [125, 10]) := Lib.hid (by rw [hstep.out, hT3l.out]; unfold pieceC; rw [if_neg a0'.out, hfirst.out, hlastC.out]; simp)
            go_wp2_with (go_at_call 26; refine hwc.out.mono ?_; rintro e w9 ⟨rfl, i9, k9⟩; have hI9 := Lib.hid i9; have hK9 := Lib.hid (hK8.out.trans k9); clear i9 k9 hK8 hwc)
            exact ⟨⟨0 + 1, by omega, by go_num, by rw [hfin.out]; exact hI9, hK9⟩, by simp [intOf]; omega⟩
          · have el : ((0 : Int) == (ls.length : Int) - 1) = false := by simp; omega
            obtain ⟨x, hx⟩ : ∃ x, ls[0 + 1]? = some x := ⟨_, List.getElem?_eq_getElem (by omega)⟩
            obtain ⟨Nx, hNx⟩ : ∃ N : ByteArray, N = ⟨x.name.toArray⟩ := ⟨_, rfl⟩
            obtain ⟨Fx, hFx⟩ : ∃ N : ByteArray, N = ⟨x.leaf.toArray⟩ := ⟨_, rfl⟩
            obtain ⟨Vx, hVx⟩ : ∃ N : ByteArray, N = ⟨x.value.toArray⟩ := ⟨_, rfl⟩
            have hnext : Hid (w7.rangeAt g (o + (0 + 1) * 4) [.int .i64 x.head, .string Nx, .string Fx, .string Vx]) := Lib.hid (by rw [hNx, hFx, hVx]; exact hK7.out.k.rangeAt (hrows'.out (0 + 1) x hx) hgw.out)
            obtain ⟨zl, hzl⟩ : ∃ z, (decide (q.head = x.head) && decide (N.data.toList = Nx.data.toList)) = z := ⟨_, rfl⟩
            have hsl : Hid (sameC q x = zl) := Lib.hid (by rw [← hzl, hNl.out, hNx]; rfl)
            have hzl' := Lib.hid hzl; have hx' := Lib.hid hx
            have l1 : IntKind.i64.wrap ((1 : Int)) = (1 : Int) := IntWalk.i64_in _ (by omega)
            have l2 : (0 : Int) ≤ (1 : Int) := by omega
            have l3 : (1 : Int) < ls.length := by omega
            clear hNx hFx hVx hzl hx hlast
            cases zl with
            | true =>
              refine wp_region_noPanic ?_
              refine wp_region_held_drew (S := (fun W => Keeps (fun _ => False) w7 W)) (by kernel_rfl) (((Keeps.refl _ _).drew)) (fun hHeld => ?_)
              refine tk 0 rfl ?_
              refine tk 1 rfl ?_
              refine tk 2 rfl ?_
              refine tk 3 rfl ?_
              refine tk 4 rfl ?_
              refine tk 5 rfl ?_
              refine tkL 6 rfl (yieldsIf_load_mid (by rfl) 50 (.tmp 5) rfl gx 0 rfl [.int .i64 q.head, .string N, .string F, .string V] _ (fun _ s => (hB7.out.keep s id).range) Tryz.underlying50 rfl lineInfo) ?_
              refine tk 7 rfl ?_
              refine tk 8 rfl ?_
              refine tk 9 rfl ?_
              refine tk 10 rfl ?_
              refine tkL 11 rfl (yieldsIf_load_mid (by rfl) 50 (.tmp 57) rfl g (o + (0 + 1) * 4) rfl [.int .i64 x.head, .string Nx, .string Fx, .string Vx] _ (fun _ s => s.rangeAt hnext.out id) Tryz.underlying50 rfl lineInfo) ?_
              refine stepL 12 rfl (by kernel_rfl) (fun K hK => ?_)
              go_simp
              (refine (sameName_any q.head x.head N F V Nx Fx Vx _ _ hzl').mono ?_; rintro e w5 ⟨rfl, k5⟩; have k5' := Lib.hid k5; clear k5)
              go_wp2_with fail
              refine hK.out _ _ ((hHeld.trans k5'.out)) (fun hHeld => ?_)
              clear hK K
              try simp only [Act.put, sA, sZ, sS]
              refine tk 13 rfl ?_
              refine tk 14 rfl ?_
              refine wpAnyH_done (by kernel_rfl) (NoPanic.normal ?_) _
              have hI8 := Lib.hid (hI7.out.keep hHeld)
              have hK8 := Lib.hid (hK7.out.trans (KeepsT.of hHeld))
              clear hHeld hI7 hK7
              have hlastC : Hid (lastC q (ls[0 + 1]?) = []) := Lib.hid (by rw [hx'.out]; unfold lastC; simp only; rw [if_pos hsl.out])
              have hfin : Hid (textK ls (0 + 1) = U ++ T1.data.toList ++ T3.data.toList) := Lib.hid (by rw [hstep.out, hT3l.out]; unfold pieceC; rw [if_neg a0'.out, hfirst.out, hlastC.out]; simp)
              clear l1 l2 l3
              go_wp2_with fail
              exact ⟨⟨0 + 1, by omega, by go_num, by rw [hfin.out]; exact hI8, hK8⟩, by simp [intOf]; omega⟩
            | false =>
              refine wp_region_noPanic ?_
              refine wp_region_held_drew (S := (fun W => Keeps (fun _ => False) w7 W)) (by kernel_rfl) (((Keeps.refl _ _).drew)) (fun hHeld => ?_)
              refine tk 0 rfl ?_
              refine tk 1 rfl ?_
              refine tk 2 rfl ?_
              refine tk 3 rfl ?_
              refine tk 4 rfl ?_
              refine tk 5 rfl ?_
              refine tkL 6 rfl (yieldsIf_load_mid (by rfl) 50 (.tmp 5) rfl gx 0 rfl [.int .i64 q.head, .string N, .string F, .string V] _ (fun _ s => (hB7.out.keep s id).range) Tryz.underlying50 rfl lineInfo) ?_
              refine tk 7 rfl ?_
              refine tk 8 rfl ?_
              refine tk 9 rfl ?_
              refine tk 10 rfl ?_
              refine tkL 11 rfl (yieldsIf_load_mid (by rfl) 50 (.tmp 57) rfl g (o + (0 + 1) * 4) rfl [.int .i64 x.head, .string Nx, .string Fx, .string Vx] _ (fun _ s => s.rangeAt hnext.out id) Tryz.underlying50 rfl lineInfo) ?_
              refine stepL 12 rfl (by kernel_rfl) (fun K hK => ?_)
              go_simp
              (refine (sameName_any q.head x.head N F V Nx Fx Vx _ _ hzl').mono ?_; rintro e w5 ⟨rfl, k5⟩; have k5' := Lib.hid k5; clear k5)
              go_wp2_with fail
              refine hK.out _ _ ((hHeld.trans k5'.out)) (fun hHeld => ?_)
              clear hK K
              try simp only [Act.put, sA, sZ, sS]
              refine tk 13 rfl ?_
              refine tk 14 rfl ?_
              refine wpAnyH_done (by kernel_rfl) (NoPanic.normal ?_) _
              have hI8 := Lib.hid (hI7.out.keep hHeld)
              have hK8 := Lib.hid (hK7.out.trans (KeepsT.of hHeld))
              clear hHeld hI7 hK7
              have hlastC : Hid (lastC q (ls[0 + 1]?) = [125, 10]) := Lib.hid (by rw [hx'.out]; unfold lastC; simp only; rw [if_neg (by rw [hsl.out]; exact Bool.false_ne_true)])
              clear l1 l2 l3
              have hlW : (U ++ T1.data.toList ++ T3.data.toList).length + (⟨#[125, 10]⟩ : ByteArray).size ≤ 1000000000 := by
                have e3 : T3.data.toList.length = T3.size := by simp
                simp only [List.length_append, e3]
                show _ + 2 ≤ _
                first | omega | (have := eT1.out; omega)
              have hwc := Lib.hid (writeString_any _ _ _ ⟨#[125, 10]⟩ _ hI8.out hlW hK8.out.k.size)
              clear hlW hI8
              have hfin : Hid (textK ls (0 + 1) = U ++ T1.data.toList ++ T3.data.toList ++ [125, 10]) := Lib.hid (by rw [hstep.out, hT3l.out]; unfold pieceC; rw [if_neg a0'.out, hfirst.out, hlastC.out]; simp)
              go_wp2_with (go_at_call 26; refine hwc.out.mono ?_; rintro e w9 ⟨rfl, i9, k9⟩; have hI9 := Lib.hid i9; have hK9 := Lib.hid (hK8.out.trans k9); clear i9 k9 hK8 hwc)
              exact ⟨⟨0 + 1, by omega, by go_num, by rw [hfin.out]; exact hI9, hK9⟩, by simp [intOf]; omega⟩
        | succ j =>
          obtain ⟨b, hbq⟩ : ∃ b, ls[j]? = some b := ⟨_, List.getElem?_eq_getElem (by omega)⟩
          obtain ⟨Nb, hNb⟩ : ∃ N : ByteArray, N = ⟨b.name.toArray⟩ := ⟨_, rfl⟩
          obtain ⟨Fb, hFb⟩ : ∃ N : ByteArray, N = ⟨b.leaf.toArray⟩ := ⟨_, rfl⟩
          obtain ⟨Vb, hVb⟩ : ∃ N : ByteArray, N = ⟨b.value.toArray⟩ := ⟨_, rfl⟩
          have hprev : Hid (Wx.rangeAt g (o + j * 4) [.int .i64 b.head, .string Nb, .string Fb, .string Vb]) := Lib.hid (by rw [hNb, hFb, hVb]; exact hKx.out.k.rangeAt (hrows'.out j b hbq) hgw.out)
          obtain ⟨zs, hzs⟩ : ∃ z, (decide (b.head = q.head) && decide (Nb.data.toList = N.data.toList)) = z := ⟨_, rfl⟩
          have hss : Hid (sameC b q = zs) := Lib.hid (by rw [← hzs, hNb, hNl.out]; rfl)
          have hzs' := Lib.hid hzs; have hbq' := Lib.hid hbq
          have l1 : IntKind.i64.wrap (j : Int) = (j : Int) := IntWalk.i64_in _ (by omega)
          have l3 : (0 : Int) ≤ (j : Int) := by omega
          have l4 : (j : Int) < ls.length := by omega
          have l5 : (0 : Int) < (j : Int) + 1 := by omega
          have l6 : ((j : Int) + 1 == 0) = false := by simp; omega
          clear hNb hFb hVb hzs hbq
          cases zs with
          | true =>
            go_upto_region 9 with fail
            clear c0
            refine wp_region_noPanic ?_
            refine wp_region_held_drew (S := (fun W => Keeps (fun _ => False) Wx W)) (by kernel_rfl) (((Keeps.refl _ _).drew)) (fun hHeld => ?_)
            refine tk 0 rfl ?_
            refine tk 1 rfl ?_
            refine tk 2 rfl ?_
            refine tk 3 rfl ?_
            refine tk 4 rfl ?_
            refine tk 5 rfl ?_
            refine tk 6 rfl ?_
            refine tkL 7 rfl (yieldsIf_load_mid (by rfl) 50 (.tmp 28) rfl g (o + j * 4) rfl [.int .i64 b.head, .string Nb, .string Fb, .string Vb] _ (fun _ s => s.rangeAt hprev.out id) Tryz.underlying50 rfl lineInfo) ?_
            refine tkL 8 rfl (yieldsIf_load_mid (by rfl) 50 (.tmp 5) rfl gx 0 rfl [.int .i64 q.head, .string N, .string F, .string V] _ (fun _ s => (hBx.out.keep s id).range) Tryz.underlying50 rfl lineInfo) ?_
            refine stepL 9 rfl (by kernel_rfl) (fun K hK => ?_)
            go_simp
            (refine (sameName_any b.head q.head Nb Fb Vb N F V _ _ hzs').mono ?_; rintro e w5 ⟨rfl, k5⟩; have k5' := Lib.hid k5; clear k5)
            go_wp2_with fail
            refine hK.out _ _ ((hHeld.trans k5'.out)) (fun hHeld => ?_)
            clear hK K
            try simp only [Act.put, sA, sZ, sS]
            refine tk 10 rfl ?_
            refine tk 11 rfl ?_
            refine wpAnyH_done (by kernel_rfl) (NoPanic.normal ?_) _
            have hBf := Lib.hid (hBx.out.keep hHeld id)
            have hIf := Lib.hid (hIx.out.keep hHeld)
            have hKf := Lib.hid (hKx.out.trans (KeepsT.of hHeld))
            clear hHeld hBx hIx hKx
            have hfirst : Hid (firstC (prevOf ls (j + 1)) q = []) := Lib.hid (by show firstC (ls[j]?) q = []; rw [hbq'.out]; unfold firstC; simp only; rw [if_pos hss.out])
            clear l1 l3 l4 l5 l6
            go_wp2_with ((with_reducible refine at_slot 43 ?_); refine wpList_load_mid rfl 50 (.tmp 5) rfl gx 0 rfl [.int .i64 q.head, .string N, .string F, .string V] _ hBf.out.range Tryz.underlying50 rfl lineInfo ?_)
            refine (written_any q.head N F V T2 _ (by omega) (by omega) h2').mono ?_
            rintro e w6 ⟨rfl, k6⟩
            have hI6 := Lib.hid (hIf.out.keep k6)
            have hK6 := Lib.hid (hKf.out.trans (KeepsT.of k6))
            have hB6 := Lib.hid (hBf.out.keep k6 id)
            clear k6 hIf hKf hBf
            go_wp2_with fail
            rw [← h3'.out]
            have hsz6 : (U).length + T3.size ≤ 1000000000 := by (try simp only [List.length_append]); first | omega | (have := eT1.out; omega)
            refine (writeString_any _ _ (U) T3 _ hI6.out hsz6 (by have := hK6.out.k.size; omega)).mono ?_
            rintro e w7 ⟨rfl, i7, k7⟩
            have hI7 := Lib.hid i7
            have hB7 := Lib.hid (k7.blk hB6.out (by decide) (by decide))
            have hK7 := Lib.hid (hK6.out.trans k7)
            clear i7 k7 hI6 hK6 hB6 hsz6
            go_upto_region 12 with fail
            have hwn : IntKind.i64.wrap ((ls.length : Int) - 1) = (ls.length : Int) - 1 := IntWalk.i64_in _ (by omega)
            by_cases hlast : j + 1 + 1 = ls.length
            · have el : (((j : Int) + 1) == (ls.length : Int) - 1) = true := by simp; omega
              have hlastC : Hid (lastC q (ls[j + 1 + 1]?) = [125, 10]) := Lib.hid (by rw [List.getElem?_eq_none (by omega)]; rfl)
              clear hlast
              refine wp_region_noPanic ?_
              refine wp_region_held_drew (S := (fun W => Keeps (fun _ => False) w7 W)) (by kernel_rfl) (((Keeps.refl _ _).drew)) (fun hHeld => ?_)
              refine tk 0 rfl ?_
              refine tk 1 rfl ?_
              refine tk 2 rfl ?_
              refine tk 3 rfl ?_
              refine tk 4 rfl ?_
              refine tk 5 rfl ?_
              refine tkS 6 rfl ?_
              refine tkS 7 rfl ?_
              refine tkS 8 rfl ?_
              refine tkS 9 rfl ?_
              refine tkS 10 rfl ?_
              refine tkS 11 rfl ?_
              refine tkS 12 rfl ?_
              refine tkS 13 rfl ?_
              refine tk 14 rfl ?_
              refine wpAnyH_done (by kernel_rfl) (NoPanic.normal ?_) _
              have hI8 := Lib.hid (hI7.out.keep hHeld)
              have hK8 := Lib.hid (hK7.out.trans (KeepsT.of hHeld))
              clear hHeld hI7 hK7
              have hlW : (U ++ T3.data.toList).length + (⟨#[125, 10]⟩ : ByteArray).size ≤ 1000000000 := by
                have e3 : T3.data.toList.length = T3.size := by simp
                simp only [List.length_append, e3]
                show _ + 2 ≤ _
                first | omega | (have := eT1.out; omega)
              have hwc := Lib.hid (writeString_any _ _ _ ⟨#[125, 10]⟩ _ hI8.out hlW hK8.out.k.size)
              clear hlW hI8
              have hfin : Hid (textK ls (j + 1 + 1) = U ++ T3.data.toList ++ [125, 10]) := Lib.hid (by rw [hstep.out, hT3l.out]; unfold pieceC; rw [if_neg a0'.out, hfirst.out, hlastC.out]; simp)
              go_wp2_with (go_at_call 26; refine hwc.out.mono ?_; rintro e w9 ⟨rfl, i9, k9⟩; have hI9 := Lib.hid i9; have hK9 := Lib.hid (hK8.out.trans k9); clear i9 k9 hK8 hwc)
              exact ⟨⟨j + 1 + 1, by omega, by go_num, by rw [hfin.out]; exact hI9, hK9⟩, by simp [intOf]; omega⟩
            · have el : (((j : Int) + 1) == (ls.length : Int) - 1) = false := by simp; omega
              obtain ⟨x, hx⟩ : ∃ x, ls[j + 1 + 1]? = some x := ⟨_, List.getElem?_eq_getElem (by omega)⟩
              obtain ⟨Nx, hNx⟩ : ∃ N : ByteArray, N = ⟨x.name.toArray⟩ := ⟨_, rfl⟩
              obtain ⟨Fx, hFx⟩ : ∃ N : ByteArray, N = ⟨x.leaf.toArray⟩ := ⟨_, rfl⟩
              obtain ⟨Vx, hVx⟩ : ∃ N : ByteArray, N = ⟨x.value.toArray⟩ := ⟨_, rfl⟩
              have hnext : Hid (w7.rangeAt g (o + (j + 1 + 1) * 4) [.int .i64 x.head, .string Nx, .string Fx, .string Vx]) := Lib.hid (by rw [hNx, hFx, hVx]; exact hK7.out.k.rangeAt (hrows'.out (j + 1 + 1) x hx) hgw.out)
              obtain ⟨zl, hzl⟩ : ∃ z, (decide (q.head = x.head) && decide (N.data.toList = Nx.data.toList)) = z := ⟨_, rfl⟩
              have hsl : Hid (sameC q x = zl) := Lib.hid (by rw [← hzl, hNl.out, hNx]; rfl)
              have hzl' := Lib.hid hzl; have hx' := Lib.hid hx
              have l1 : IntKind.i64.wrap (((j : Int) + 1) + 1) = ((j : Int) + 1) + 1 := IntWalk.i64_in _ (by omega)
              have l2 : (0 : Int) ≤ ((j : Int) + 1) + 1 := by omega
              have l3 : ((j : Int) + 1) + 1 < ls.length := by omega
              clear hNx hFx hVx hzl hx hlast
              cases zl with
              | true =>
                refine wp_region_noPanic ?_
                refine wp_region_held_drew (S := (fun W => Keeps (fun _ => False) w7 W)) (by kernel_rfl) (((Keeps.refl _ _).drew)) (fun hHeld => ?_)
                refine tk 0 rfl ?_
                refine tk 1 rfl ?_
                refine tk 2 rfl ?_
                refine tk 3 rfl ?_
                refine tk 4 rfl ?_
                refine tk 5 rfl ?_
                refine tkL 6 rfl (yieldsIf_load_mid (by rfl) 50 (.tmp 5) rfl gx 0 rfl [.int .i64 q.head, .string N, .string F, .string V] _ (fun _ s => (hB7.out.keep s id).range) Tryz.underlying50 rfl lineInfo) ?_
                refine tk 7 rfl ?_
                refine tk 8 rfl ?_
                refine tk 9 rfl ?_
                refine tk 10 rfl ?_
                refine tkL 11 rfl (yieldsIf_load_mid (by rfl) 50 (.tmp 57) rfl g (o + (j + 1 + 1) * 4) rfl [.int .i64 x.head, .string Nx, .string Fx, .string Vx] _ (fun _ s => s.rangeAt hnext.out id) Tryz.underlying50 rfl lineInfo) ?_
                refine stepL 12 rfl (by kernel_rfl) (fun K hK => ?_)
                go_simp
                (refine (sameName_any q.head x.head N F V Nx Fx Vx _ _ hzl').mono ?_; rintro e w5 ⟨rfl, k5⟩; have k5' := Lib.hid k5; clear k5)
                go_wp2_with fail
                refine hK.out _ _ ((hHeld.trans k5'.out)) (fun hHeld => ?_)
                clear hK K
                try simp only [Act.put, sA, sZ, sS]
                refine tk 13 rfl ?_
                refine tk 14 rfl ?_
                refine wpAnyH_done (by kernel_rfl) (NoPanic.normal ?_) _
                have hI8 := Lib.hid (hI7.out.keep hHeld)
                have hK8 := Lib.hid (hK7.out.trans (KeepsT.of hHeld))
                clear hHeld hI7 hK7
                have hlastC : Hid (lastC q (ls[j + 1 + 1]?) = []) := Lib.hid (by rw [hx'.out]; unfold lastC; simp only; rw [if_pos hsl.out])
                have hfin : Hid (textK ls (j + 1 + 1) = U ++ T3.data.toList) := Lib.hid (by rw [hstep.out, hT3l.out]; unfold pieceC; rw [if_neg a0'.out, hfirst.out, hlastC.out]; simp)
                clear l1 l2 l3
                go_wp2_with fail
                exact ⟨⟨j + 1 + 1, by omega, by go_num, by rw [hfin.out]; exact hI8, hK8⟩, by simp [intOf]; omega⟩
              | false =>
                refine wp_region_noPanic ?_
                refine wp_region_held_drew (S := (fun W => Keeps (fun _ => False) w7 W)) (by kernel_rfl) (((Keeps.refl _ _).drew)) (fun hHeld => ?_)
                refine tk 0 rfl ?_
                refine tk 1 rfl ?_
                refine tk 2 rfl ?_
                refine tk 3 rfl ?_
                refine tk 4 rfl ?_
                refine tk 5 rfl ?_
                refine tkL 6 rfl (yieldsIf_load_mid (by rfl) 50 (.tmp 5) rfl gx 0 rfl [.int .i64 q.head, .string N, .string F, .string V] _ (fun _ s => (hB7.out.keep s id).range) Tryz.underlying50 rfl lineInfo) ?_
                refine tk 7 rfl ?_
                refine tk 8 rfl ?_
                refine tk 9 rfl ?_
                refine tk 10 rfl ?_
                refine tkL 11 rfl (yieldsIf_load_mid (by rfl) 50 (.tmp 57) rfl g (o + (j + 1 + 1) * 4) rfl [.int .i64 x.head, .string Nx, .string Fx, .string Vx] _ (fun _ s => s.rangeAt hnext.out id) Tryz.underlying50 rfl lineInfo) ?_
                refine stepL 12 rfl (by kernel_rfl) (fun K hK => ?_)
                go_simp
                (refine (sameName_any q.head x.head N F V Nx Fx Vx _ _ hzl').mono ?_; rintro e w5 ⟨rfl, k5⟩; have k5' := Lib.hid k5; clear k5)
                go_wp2_with fail
                refine hK.out _ _ ((hHeld.trans k5'.out)) (fun hHeld => ?_)
                clear hK K
                try simp only [Act.put, sA, sZ, sS]
                refine tk 13 rfl ?_
                refine tk 14 rfl ?_
                refine wpAnyH_done (by kernel_rfl) (NoPanic.normal ?_) _
                have hI8 := Lib.hid (hI7.out.keep hHeld)
                have hK8 := Lib.hid (hK7.out.trans (KeepsT.of hHeld))
                clear hHeld hI7 hK7
                have hlastC : Hid (lastC q (ls[j + 1 + 1]?) = [125, 10]) := Lib.hid (by rw [hx'.out]; unfold lastC; simp only; rw [if_neg (by rw [hsl.out]; exact Bool.false_ne_true)])
                clear l1 l2 l3
                have hlW : (U ++ T3.data.toList).length + (⟨#[125, 10]⟩ : ByteArray).size ≤ 1000000000 := by
                  have e3 : T3.data.toList.length = T3.size := by simp
                  simp only [List.length_append, e3]
                  show _ + 2 ≤ _
                  first | omega | (have := eT1.out; omega)
                have hwc := Lib.hid (writeString_any _ _ _ ⟨#[125, 10]⟩ _ hI8.out hlW hK8.out.k.size)
                clear hlW hI8
                have hfin : Hid (textK ls (j + 1 + 1) = U ++ T3.data.toList ++ [125, 10]) := Lib.hid (by rw [hstep.out, hT3l.out]; unfold pieceC; rw [if_neg a0'.out, hfirst.out, hlastC.out]; simp)
                go_wp2_with (go_at_call 26; refine hwc.out.mono ?_; rintro e w9 ⟨rfl, i9, k9⟩; have hI9 := Lib.hid i9; have hK9 := Lib.hid (hK8.out.trans k9); clear i9 k9 hK8 hwc)
                exact ⟨⟨j + 1 + 1, by omega, by go_num, by rw [hfin.out]; exact hI9, hK9⟩, by simp [intOf]; omega⟩
          | false =>
            go_upto_region 9 with fail
            clear c0
            refine wp_region_noPanic ?_
            refine wp_region_held_drew (S := (fun W => Keeps (fun _ => False) Wx W)) (by kernel_rfl) (((Keeps.refl _ _).drew)) (fun hHeld => ?_)
            refine tk 0 rfl ?_
            refine tk 1 rfl ?_
            refine tk 2 rfl ?_
            refine tk 3 rfl ?_
            refine tk 4 rfl ?_
            refine tk 5 rfl ?_
            refine tk 6 rfl ?_
            refine tkL 7 rfl (yieldsIf_load_mid (by rfl) 50 (.tmp 28) rfl g (o + j * 4) rfl [.int .i64 b.head, .string Nb, .string Fb, .string Vb] _ (fun _ s => s.rangeAt hprev.out id) Tryz.underlying50 rfl lineInfo) ?_
            refine tkL 8 rfl (yieldsIf_load_mid (by rfl) 50 (.tmp 5) rfl gx 0 rfl [.int .i64 q.head, .string N, .string F, .string V] _ (fun _ s => (hBx.out.keep s id).range) Tryz.underlying50 rfl lineInfo) ?_
            refine stepL 9 rfl (by kernel_rfl) (fun K hK => ?_)
            go_simp
            (refine (sameName_any b.head q.head Nb Fb Vb N F V _ _ hzs').mono ?_; rintro e w5 ⟨rfl, k5⟩; have k5' := Lib.hid k5; clear k5)
            go_wp2_with fail
            refine hK.out _ _ ((hHeld.trans k5'.out)) (fun hHeld => ?_)
            clear hK K
            try simp only [Act.put, sA, sZ, sS]
            refine tk 10 rfl ?_
            refine tk 11 rfl ?_
            refine wpAnyH_done (by kernel_rfl) (NoPanic.normal ?_) _
            have hBf := Lib.hid (hBx.out.keep hHeld id)
            have hIf := Lib.hid (hIx.out.keep hHeld)
            have hKf := Lib.hid (hKx.out.trans (KeepsT.of hHeld))
            clear hHeld hBx hIx hKx
            clear l1 l3 l4 l5 l6
            obtain ⟨HW, hHW⟩ : ∃ S : ByteArray, S = ⟨(headC q.head).toArray⟩ := ⟨_, rfl⟩
            have sHW : HW.size ≤ 9 := by rw [hHW]; exact headC_len q.head
            obtain ⟨T1, h1⟩ : ∃ T : ByteArray, T = HW ++ ⟨#[32]⟩ ++ N ++ ⟨#[32, 123, 10]⟩ := ⟨_, rfl⟩
            have hT1l : Hid (T1.data.toList = headC q.head ++ [32] ++ q.name ++ [32, 123, 10]) := Lib.hid (by rw [h1, hHW, ← hNl.out]; simp)
            have s1 : T1.size ≤ 120 := by rw [h1]; simp only [ByteArray.size_append]; show HW.size + 1 + N.size + 3 ≤ 120; omega
            have eT1 : Hid (T1.data.toList.length = T1.size) := Lib.hid (by simp)
            have hHW' := Lib.hid hHW; have h1' := Lib.hid h1
            clear hHW h1
            go_upto_region 10 with fail
            generalize hWy : w5 = Wy at hIf hKf hBf ⊢
            clear hWy
            refine wp_region_noPanic ?_
            refine wp_region_held_drew (S := (fun W => KeepsT w2.heap.size Wy W)) (by kernel_rfl) ((KeepsT.of (Keeps.refl _ _).drew)) (fun hHeld => ?_)
            refine tk 0 rfl ?_
            refine tkL 1 rfl (yieldsIf_load_cell (by rfl) 3 (.tmp 34) rfl gx 0 rfl _ (fun _ s => (KeepsT.blk s hBf.out (by decide) (by decide)).cell 0 _ rfl) (fun w s => load_int w _ _ _ s)) ?_
            refine tk 4 rfl ?_
            refine tkL 5 rfl (yieldsIf_load_cell (by rfl) 9 (.tmp 38) rfl gx 1 rfl _ (fun _ s => (KeepsT.blk s hBf.out (by decide) (by decide)).cell 1 _ rfl) (fun w s => load_str w _ _ _ s)) ?_
            refine stepL 2 rfl (by kernel_rfl) (fun K hK => ?_)
            go_simp
            (refine (headWord_any q.head HW _ hHW').mono ?_; rintro e w4 ⟨rfl, k4⟩; have k4' := Lib.hid k4; have hI4 := Lib.hid (hIf.out.keep (((Keeps.refl _ _).drew).trans k4)); clear k4)
            go_wp2_with fail
            refine hK.out _ _ ((KeepsT.trans hHeld (KeepsT.of k4'.out))) (fun hHeld => ?_)
            clear hK K
            try simp only [Act.put, sA, sZ, sS]
            refine tk 3 (v := .string (HW ++ ⟨#[32]⟩)) (hy := fun wS hSw => by go_simp; try omega) rfl ?_
            refine tk 6 (v := .string (HW ++ ⟨#[32]⟩ ++ N)) (hy := fun wS hSw => by go_simp; try omega) rfl ?_
            refine tk 7 (v := .string T1) (hy := fun wS hSw => by rw [h1'.out]; go_simp; try omega) rfl ?_
            refine stepL 8 rfl (by kernel_rfl) (fun K hK => ?_)
            go_simp
            (refine (writeString_any _ _ U T1 _ hI4.out (by omega) (by have := hKf.out.k.size; have := hHeld.k.size; omega)).mono ?_; rintro e w5 ⟨rfl, i5, k5⟩; have k5' := Lib.hid k5; have hI5 := Lib.hid i5; clear k5 i5 hI4)
            go_wp2_with fail
            refine hK.out _ _ ((KeepsT.trans hHeld k5'.out)) (fun hHeld => ?_)
            clear hK K
            try simp only [Act.put, sA, sZ, sS]
            refine wpAnyH_done (by kernel_rfl) (NoPanic.normal ?_) _
            have hB5 := Lib.hid (hHeld.blk hBf.out (by decide) (by decide))
            have hK5 := Lib.hid (hKf.out.trans hHeld)
            have hfirst : Hid (firstC (prevOf ls (j + 1)) q = T1.data.toList) := Lib.hid (by rw [hT1l.out]; show firstC (ls[j]?) q = _; rw [hbq'.out]; unfold firstC; simp only; rw [if_neg (by rw [hss.out]; exact Bool.false_ne_true)])
            clear hHeld hBf hIf hKf k4' k5'
            go_wp2_with ((with_reducible refine at_slot 43 ?_); refine wpList_load_mid rfl 50 (.tmp 5) rfl gx 0 rfl [.int .i64 q.head, .string N, .string F, .string V] _ hB5.out.range Tryz.underlying50 rfl lineInfo ?_)
            refine (written_any q.head N F V T2 _ (by omega) (by omega) h2').mono ?_
            rintro e w6 ⟨rfl, k6⟩
            have hI6 := Lib.hid (hI5.out.keep k6)
            have hK6 := Lib.hid (hK5.out.trans (KeepsT.of k6))
            have hB6 := Lib.hid (hB5.out.keep k6 id)
            clear k6 hI5 hK5 hB5
            go_wp2_with fail
            rw [← h3'.out]
            have hsz6 : (U ++ T1.data.toList).length + T3.size ≤ 1000000000 := by (try simp only [List.length_append]); first | omega | (have := eT1.out; omega)
            refine (writeString_any _ _ (U ++ T1.data.toList) T3 _ hI6.out hsz6 (by have := hK6.out.k.size; omega)).mono ?_
            rintro e w7 ⟨rfl, i7, k7⟩
            have hI7 := Lib.hid i7
            have hB7 := Lib.hid (k7.blk hB6.out (by decide) (by decide))
            have hK7 := Lib.hid (hK6.out.trans k7)
            clear i7 k7 hI6 hK6 hB6 hsz6
            go_upto_region 12 with fail
            have hwn : IntKind.i64.wrap ((ls.length : Int) - 1) = (ls.length : Int) - 1 := IntWalk.i64_in _ (by omega)
            by_cases hlast : j + 1 + 1 = ls.length
            · have el : (((j : Int) + 1) == (ls.length : Int) - 1) = true := by simp; omega
              have hlastC : Hid (lastC q (ls[j + 1 + 1]?) = [125, 10]) := Lib.hid (by rw [List.getElem?_eq_none (by omega)]; rfl)
              clear hlast
              refine wp_region_noPanic ?_
              refine wp_region_held_drew (S := (fun W => Keeps (fun _ => False) w7 W)) (by kernel_rfl) (((Keeps.refl _ _).drew)) (fun hHeld => ?_)
              refine tk 0 rfl ?_
              refine tk 1 rfl ?_
              refine tk 2 rfl ?_
              refine tk 3 rfl ?_
              refine tk 4 rfl ?_
              refine tk 5 rfl ?_
              refine tkS 6 rfl ?_
              refine tkS 7 rfl ?_
              refine tkS 8 rfl ?_
              refine tkS 9 rfl ?_
              refine tkS 10 rfl ?_
              refine tkS 11 rfl ?_
              refine tkS 12 rfl ?_
              refine tkS 13 rfl ?_
              refine tk 14 rfl ?_
              refine wpAnyH_done (by kernel_rfl) (NoPanic.normal ?_) _
              have hI8 := Lib.hid (hI7.out.keep hHeld)
              have hK8 := Lib.hid (hK7.out.trans (KeepsT.of hHeld))
              clear hHeld hI7 hK7
              have hlW : (U ++ T1.data.toList ++ T3.data.toList).length + (⟨#[125, 10]⟩ : ByteArray).size ≤ 1000000000 := by
                have e3 : T3.data.toList.length = T3.size := by simp
                simp only [List.length_append, e3]
                show _ + 2 ≤ _
                first | omega | (have := eT1.out; omega)
              have hwc := Lib.hid (writeString_any _ _ _ ⟨#[125, 10]⟩ _ hI8.out hlW hK8.out.k.size)
              clear hlW hI8
              have hfin : Hid (textK ls (j + 1 + 1) = U ++ T1.data.toList ++ T3.data.toList ++ [125, 10]) := Lib.hid (by rw [hstep.out, hT3l.out]; unfold pieceC; rw [if_neg a0'.out, hfirst.out, hlastC.out]; simp)
              go_wp2_with (go_at_call 26; refine hwc.out.mono ?_; rintro e w9 ⟨rfl, i9, k9⟩; have hI9 := Lib.hid i9; have hK9 := Lib.hid (hK8.out.trans k9); clear i9 k9 hK8 hwc)
              exact ⟨⟨j + 1 + 1, by omega, by go_num, by rw [hfin.out]; exact hI9, hK9⟩, by simp [intOf]; omega⟩
            · have el : (((j : Int) + 1) == (ls.length : Int) - 1) = false := by simp; omega
              obtain ⟨x, hx⟩ : ∃ x, ls[j + 1 + 1]? = some x := ⟨_, List.getElem?_eq_getElem (by omega)⟩
              obtain ⟨Nx, hNx⟩ : ∃ N : ByteArray, N = ⟨x.name.toArray⟩ := ⟨_, rfl⟩
              obtain ⟨Fx, hFx⟩ : ∃ N : ByteArray, N = ⟨x.leaf.toArray⟩ := ⟨_, rfl⟩
              obtain ⟨Vx, hVx⟩ : ∃ N : ByteArray, N = ⟨x.value.toArray⟩ := ⟨_, rfl⟩
              have hnext : Hid (w7.rangeAt g (o + (j + 1 + 1) * 4) [.int .i64 x.head, .string Nx, .string Fx, .string Vx]) := Lib.hid (by rw [hNx, hFx, hVx]; exact hK7.out.k.rangeAt (hrows'.out (j + 1 + 1) x hx) hgw.out)
              obtain ⟨zl, hzl⟩ : ∃ z, (decide (q.head = x.head) && decide (N.data.toList = Nx.data.toList)) = z := ⟨_, rfl⟩
              have hsl : Hid (sameC q x = zl) := Lib.hid (by rw [← hzl, hNl.out, hNx]; rfl)
              have hzl' := Lib.hid hzl; have hx' := Lib.hid hx
              have l1 : IntKind.i64.wrap (((j : Int) + 1) + 1) = ((j : Int) + 1) + 1 := IntWalk.i64_in _ (by omega)
              have l2 : (0 : Int) ≤ ((j : Int) + 1) + 1 := by omega
              have l3 : ((j : Int) + 1) + 1 < ls.length := by omega
              clear hNx hFx hVx hzl hx hlast
              cases zl with
              | true =>
                refine wp_region_noPanic ?_
                refine wp_region_held_drew (S := (fun W => Keeps (fun _ => False) w7 W)) (by kernel_rfl) (((Keeps.refl _ _).drew)) (fun hHeld => ?_)
                refine tk 0 rfl ?_
                refine tk 1 rfl ?_
                refine tk 2 rfl ?_
                refine tk 3 rfl ?_
                refine tk 4 rfl ?_
                refine tk 5 rfl ?_
                refine tkL 6 rfl (yieldsIf_load_mid (by rfl) 50 (.tmp 5) rfl gx 0 rfl [.int .i64 q.head, .string N, .string F, .string V] _ (fun _ s => (hB7.out.keep s id).range) Tryz.underlying50 rfl lineInfo) ?_
                refine tk 7 rfl ?_
                refine tk 8 rfl ?_
                refine tk 9 rfl ?_
                refine tk 10 rfl ?_
                refine tkL 11 rfl (yieldsIf_load_mid (by rfl) 50 (.tmp 57) rfl g (o + (j + 1 + 1) * 4) rfl [.int .i64 x.head, .string Nx, .string Fx, .string Vx] _ (fun _ s => s.rangeAt hnext.out id) Tryz.underlying50 rfl lineInfo) ?_
                refine stepL 12 rfl (by kernel_rfl) (fun K hK => ?_)
                go_simp
                (refine (sameName_any q.head x.head N F V Nx Fx Vx _ _ hzl').mono ?_; rintro e w5 ⟨rfl, k5⟩; have k5' := Lib.hid k5; clear k5)
                go_wp2_with fail
                refine hK.out _ _ ((hHeld.trans k5'.out)) (fun hHeld => ?_)
                clear hK K
                try simp only [Act.put, sA, sZ, sS]
                refine tk 13 rfl ?_
                refine tk 14 rfl ?_
                refine wpAnyH_done (by kernel_rfl) (NoPanic.normal ?_) _
                have hI8 := Lib.hid (hI7.out.keep hHeld)
                have hK8 := Lib.hid (hK7.out.trans (KeepsT.of hHeld))
                clear hHeld hI7 hK7
                have hlastC : Hid (lastC q (ls[j + 1 + 1]?) = []) := Lib.hid (by rw [hx'.out]; unfold lastC; simp only; rw [if_pos hsl.out])
                have hfin : Hid (textK ls (j + 1 + 1) = U ++ T1.data.toList ++ T3.data.toList) := Lib.hid (by rw [hstep.out, hT3l.out]; unfold pieceC; rw [if_neg a0'.out, hfirst.out, hlastC.out]; simp)
                clear l1 l2 l3
                go_wp2_with fail
                exact ⟨⟨j + 1 + 1, by omega, by go_num, by rw [hfin.out]; exact hI8, hK8⟩, by simp [intOf]; omega⟩
              | false =>
                refine wp_region_noPanic ?_
                refine wp_region_held_drew (S := (fun W => Keeps (fun _ => False) w7 W)) (by kernel_rfl) (((Keeps.refl _ _).drew)) (fun hHeld => ?_)
                refine tk 0 rfl ?_
                refine tk 1 rfl ?_
                refine tk 2 rfl ?_
                refine tk 3 rfl ?_
                refine tk 4 rfl ?_
                refine tk 5 rfl ?_
                refine tkL 6 rfl (yieldsIf_load_mid (by rfl) 50 (.tmp 5) rfl gx 0 rfl [.int .i64 q.head, .string N, .string F, .string V] _ (fun _ s => (hB7.out.keep s id).range) Tryz.underlying50 rfl lineInfo) ?_
                refine tk 7 rfl ?_
                refine tk 8 rfl ?_
                refine tk 9 rfl ?_
                refine tk 10 rfl ?_
                refine tkL 11 rfl (yieldsIf_load_mid (by rfl) 50 (.tmp 57) rfl g (o + (j + 1 + 1) * 4) rfl [.int .i64 x.head, .string Nx, .string Fx, .string Vx] _ (fun _ s => s.rangeAt hnext.out id) Tryz.underlying50 rfl lineInfo) ?_
                refine stepL 12 rfl (by kernel_rfl) (fun K hK => ?_)
                go_simp
                (refine (sameName_any q.head x.head N F V Nx Fx Vx _ _ hzl').mono ?_; rintro e w5 ⟨rfl, k5⟩; have k5' := Lib.hid k5; clear k5)
                go_wp2_with fail
                refine hK.out _ _ ((hHeld.trans k5'.out)) (fun hHeld => ?_)
                clear hK K
                try simp only [Act.put, sA, sZ, sS]
                refine tk 13 rfl ?_
                refine tk 14 rfl ?_
                refine wpAnyH_done (by kernel_rfl) (NoPanic.normal ?_) _
                have hI8 := Lib.hid (hI7.out.keep hHeld)
                have hK8 := Lib.hid (hK7.out.trans (KeepsT.of hHeld))
                clear hHeld hI7 hK7
                have hlastC : Hid (lastC q (ls[j + 1 + 1]?) = [125, 10]) := Lib.hid (by rw [hx'.out]; unfold lastC; simp only; rw [if_neg (by rw [hsl.out]; exact Bool.false_ne_true)])
                clear l1 l2 l3
                have hlW : (U ++ T1.data.toList ++ T3.data.toList).length + (⟨#[125, 10]⟩ : ByteArray).size ≤ 1000000000 := by
                  have e3 : T3.data.toList.length = T3.size := by simp
                  simp only [List.length_append, e3]
                  show _ + 2 ≤ _
                  first | omega | (have := eT1.out; omega)
                have hwc := Lib.hid (writeString_any _ _ _ ⟨#[125, 10]⟩ _ hI8.out hlW hK8.out.k.size)
                clear hlW hI8
                have hfin : Hid (textK ls (j + 1 + 1) = U ++ T1.data.toList ++ T3.data.toList ++ [125, 10]) := Lib.hid (by rw [hstep.out, hT3l.out]; unfold pieceC; rw [if_neg a0'.out, hfirst.out, hlastC.out]; simp)
                go_wp2_with (go_at_call 26; refine hwc.out.mono ?_; rintro e w9 ⟨rfl, i9, k9⟩; have hI9 := Lib.hid i9; have hK9 := Lib.hid (hK8.out.trans k9); clear i9 k9 hK8 hwc)
                exact ⟨⟨j + 1 + 1, by omega, by go_num, by rw [hfin.out]; exact hI9, hK9⟩, by simp [intOf]; omega⟩
    · obtain rfl : k = ls.length := by omega
      clear hlk hk hI0 hK0 htk
      go_wp2_with fail
      refine (Tryz.Builder_String_any _ _ _ _ hI.out (by have := hKr.out.k.size; omega)).mono ?_
      rintro e w3 ⟨rfl, b3⟩
      have b3' := Lib.hid b3
      clear b3
      rw [← hT.out]
      go_wp2_with fail
      go_ret
      exact ⟨rfl, k2'.out.trans ((hKr.out.k.trans (Below.keepsB b3'.out)).mono (fun i hi => .inr hi))⟩
end Go.Proofs.YtdannodhlaaoiaaGreatDoor
