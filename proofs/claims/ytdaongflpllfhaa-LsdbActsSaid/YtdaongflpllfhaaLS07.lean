/- lsa.Get, walked. -/
import Derived.Test.YtdaongflpllfhaaLS06
set_option linter.unusedVariables false
set_option linter.unusedSimpArgs false
namespace Go.Proofs.Ytdaongflpllfhaa
open Go.RowKit

theorem lsHear_any (age type seq : Int) (lid adv : Nat) (p : Option Addr) (c : Nat) (x : List UInt8) (hx : x.length ≤ 1000000) (w : World) (h : Hid (BytesAt w (.slice p x.length c) x)) :
    Calls Try.prog 117 #[.agg #[.int .i64 age, .int .i64 type, .int .u32 lid, .int .u32 adv, .int .i64 seq, .slice none 0 0, .int .u32 0, .slice none 0 0, .int .i64 0], .slice p x.length c] w fun e w' => (∃ v, e = .returned v ∧ LsaF w w' v (hearD age type lid adv seq x)) ∧ Keeps (fun _ => False) w w' := by
  by_cases hn : x.length < 4
  · exact lsHear_short age type seq lid adv p c x hx w h hn
  · by_cases t1 : type = 1
    · subst t1; exact lsHear_one age seq lid adv p c x hx w h (by omega)
    · by_cases t2 : type = 2
      · subst t2; exact lsHear_two age seq lid adv p c x hx w h (by omega)
      · by_cases t3 : type = 3
        · subst t3; exact lsHear_three age seq lid adv p c x hx w h (by omega)
        · exact lsHear_else age type seq lid adv p c x hx w h (by omega) t1 t2 t3
theorem lsHear_n (age type seq : Int) (lid adv : Nat) (p : Option Addr) (n c : Nat) (x : List UInt8) (m : LsaD) (hx : x.length ≤ 1000000) (hn : x.length = n) (w : World) (h : Hid (BytesAt w (.slice p n c) x)) (hm : Hid (hearD age type lid adv seq x = m)) :
    Calls Try.prog 117 #[.agg #[.int .i64 age, .int .i64 type, .int .u32 lid, .int .u32 adv, .int .i64 seq, .slice none 0 0, .int .u32 0, .slice none 0 0, .int .i64 0], .slice p n c] w fun e w' => (∃ v, e = .returned v ∧ LsaF w w' v m) ∧ Keeps (fun _ => False) w w' := by
  subst hn; rw [← hm.out]; exact lsHear_any age type seq lid adv p c x hx w h
theorem conv_any' {W : World} {v : Value} {x : List UInt8} (h : BytesAt W v x) : (convert 71 9 v).run Try.prog W = .ok (.string ⟨x.toArray⟩) W := by
  cases x with
  | cons a x => exact conv_bytes h (by simp)
  | nil =>
    obtain ⟨p, c, rfl, hp, -, -⟩ := h
    cases p with
    | none => obtain rfl := hp rfl; exact conv_nil W
    | some a => exact run_convert_bytes_back W 71 9 5 a c [] Try.underlying71 Try.underlying5 Try.underlying9 (fun j hj => by simp at hj)
theorem bytesEqual_r (a b : Value) (x y : List UInt8) (r : Bool) (w : World) (ha : Hid (BytesAt w a x)) (hb : Hid (BytesAt w b y)) (hr : Hid ((x == y) = r)) :
    Calls Try.prog 50 #[a, b] w fun e w' => e = .returned (.bool r) ∧ w = w' := by
  have h1 := conv_any' ha.out
  have h2 := conv_any' hb.out
  have hr' := hr.out
  clear ha hb hr
  rw [← hr']
  clear hr'
  go_enter Try.func50, Try.ntmps50
  go_wp2
  go_ret
  exact ⟨rfl, rfl⟩
def zeroL : LsaD := ⟨0, 0, 0, 0, 0, [], 0, [], 0⟩
def hearH (h : HeadD) (x : List UInt8) : LsaD := hearD h.age h.type h.id h.adv h.seq x
def getL (x : List UInt8) : LsaD × Int :=
  if x.length < 20 then (zeroL, 4)
  else if rightF (x.drop 2) = false ∨ x.getD 16 0 = 255 ∨ x.getD 17 0 = 255 then (zeroL, 8)
  else if (headOf x).len ≠ (x.length : Int) then (zeroL, 3)
  else if canB (hearH (headOf x) (x.drop 20)) = true ∧ putB (hearH (headOf x) (x.drop 20)) = x then (hearH (headOf x) (x.drop 20), 0)
  else (zeroL, 3)
theorem sub_lt4 (x : List UInt8) (i n : Nat) (hn : n ≤ 4) : beVal (sub x i n) < 4294967296 := by
  have h1 := beVal_lt (sub x i n)
  have h2 : (sub x i n).length ≤ 4 := by unfold sub; simp; omega
  have h3 : 256 ^ (sub x i n).length ≤ 256 ^ 4 := Nat.pow_le_pow_right (by omega) h2
  omega
theorem readN_small (x : List UInt8) (j : Nat) : Small (readN x j) := by
  intro n hn
  unfold readN at hn
  obtain ⟨i, _, rfl⟩ := List.mem_map.1 hn
  exact sub_lt4 x _ 4 (by omega)
theorem readL_ok (x : List UInt8) (j : Nat) : ∀ l ∈ readL x j, l.ok := by
  intro l hl
  unfold readL at hl
  obtain ⟨i, _, rfl⟩ := List.mem_map.1 hl
  have h1 := sub_lt4 x (12 * i) 4 (by omega)
  have h2 := sub_lt4 x (12 * i + 4) 4 (by omega)
  have h3 := sub_lt4 x (12 * i + 10) 2 (by omega)
  have h4 := (x.getD (12 * i + 8) 0).toNat_lt
  refine ⟨h1, h2, ?_, ?_⟩
  · show _ ≤ (((x.getD (12 * i + 8) 0).toNat : Nat) : Int) ∧ (((x.getD (12 * i + 8) 0).toNat : Nat) : Int) ≤ _
    omega
  · show _ ≤ ((beVal (sub x (12 * i + 10) 2) : Nat) : Int) ∧ ((beVal (sub x (12 * i + 10) 2) : Nat) : Int) ≤ _
    omega
theorem no_small : Small [] := fun _ h => by cases h
theorem no_ok : ∀ l ∈ ([] : List LinkD), l.ok := fun _ h => by cases h
theorem hearD_parts (age type seq : Int) (lid adv : Nat) (x : List UInt8) : (hearD age type lid adv seq x).id = lid ∧ (hearD age type lid adv seq x).adv = adv ∧ (hearD age type lid adv seq x).mask < 4294967296 ∧ Small (hearD age type lid adv seq x).routers ∧ ∀ l ∈ (hearD age type lid adv seq x).links, l.ok := by
  unfold hearD
  have s := sub_lt4 x 0 4 (by omega)
  split
  · exact ⟨rfl, rfl, (by show (0 : Nat) < 4294967296; omega), no_small, no_ok⟩
  · split
    · exact ⟨rfl, rfl, (by show (0 : Nat) < 4294967296; omega), no_small, readL_ok _ _⟩
    · split
      · exact ⟨rfl, rfl, s, readN_small _ _, no_ok⟩
      · split
        · exact ⟨rfl, rfl, s, no_small, no_ok⟩
        · exact ⟨rfl, rfl, (by show (0 : Nat) < 4294967296; omega), no_small, no_ok⟩
/-- what Get answers -/
def GetPost (x : List UInt8) (w : World) (e : Ending) (w' : World) : Prop :=
  (∃ v, e = .returned (.tuple #[v, .int .i64 (getL x).2]) ∧ LsaF w w' v (getL x).1) ∧ Keeps (fun _ => False) w w'
theorem LsaF.zero (w0 w : World) : LsaF w0 w (.agg #[.int .i64 0, .int .i64 0, .int .u32 0, .int .u32 0, .int .i64 0, .slice none 0 0, .int .u32 0, .slice none 0 0, .int .i64 0]) zeroL := ⟨none, 0, none, 0, rfl, LinksAt.nil _, NumsAt.nil _, fresh_nil _, fresh_nil _⟩
theorem fresh_lt {w0 : World} {p : Option Addr} {n c : Nat} (h : ∀ i, (Value.slice p n c).ownBlock = some i → w0.heap.size < i) : ∀ i n c, (Value.slice p n c).ownBlock = some i → w0.heap.size ≤ i := fun i n' c' e => by
  have := h i (by cases p with | none => simp [Value.ownBlock] at e | some a => exact e)
  omega
theorem LsaV.zero (w : World) : LsaV w (.agg #[.int .i64 0, .int .i64 0, .int .u32 0, .int .u32 0, .int .i64 0, .slice none 0 0, .int .u32 0, .slice none 0 0, .int .i64 0]) zeroL := ⟨none, 0, none, 0, rfl, LinksAt.nil _, NumsAt.nil _⟩

set_option maxRecDepth 100000 in
set_option maxHeartbeats 4000000 in
theorem lsGet_short (p : Option Addr) (c : Nat) (x : List UInt8) (hx : x.length < 20) (w : World) :
    Calls Try.prog 105 #[.slice p x.length c] w (GetPost x w) := by
  have hg : getL x = (zeroL, 4) := by unfold getL; rw [if_pos hx]
  have hR : Hid (BlkAt (w.alloc (.cells #[.int .i64 0, .int .i64 0, .int .u32 0, .int .u32 0, .int .i64 0, .slice none 0 0, .int .u32 0, .slice none 0 0, .int .i64 0] 29)) w.heap.size 29 [.int .i64 0, .int .i64 0, .int .u32 0, .int .u32 0, .int .i64 0, .slice none 0 0, .int .u32 0, .slice none 0 0, .int .i64 0]) := Lib.hid (BlkAt.new w _ _)
  have hk : Hid (Keeps (fun _ => False) w (w.alloc (.cells #[.int .i64 0, .int .i64 0, .int .u32 0, .int .u32 0, .int .i64 0, .slice none 0 0, .int .u32 0, .slice none 0 0, .int .i64 0] 29))) := Lib.hid ((Keeps.refl _ _).alloc _)
  have hg' := Lib.hid hg; clear hg
  go_enter Try.func105, Try.ntmps105
  go_upto_region 1 with fail
  generalize w.alloc (.cells #[.int .i64 0, .int .i64 0, .int .u32 0, .int .u32 0, .int .i64 0, .slice none 0 0, .int .u32 0, .slice none 0 0, .int .i64 0] 29) = w0 at hR hk ⊢
  go_wp2_with fail
  refine (lsHead_no p x.length c hx _).mono ?_
  rintro e w1 ⟨rfl, k1⟩
  have hR1 := Lib.hid (hR.out.keep k1 id)
  have hk1 := Lib.hid (hk.out.trans k1)
  clear k1 hR hk
  have hR2 := Lib.hid (hR1.out.alloc (.cells #[.int .i64 0, .int .i64 0, .int .u32 0, .int .u32 0, .int .i64 0, .int .u16 0, .int .i64 0] 82))
  have hk2 := Lib.hid (hk1.out.alloc (.cells #[.int .i64 0, .int .i64 0, .int .u32 0, .int .u32 0, .int .i64 0, .int .u16 0, .int .i64 0] 82))
  clear hR1 hk1
  go_wp2_with (first | ((with_reducible refine at_store 4 ?_); refine wpList_store_new rfl 82 (.tmp 4) (.tmp 11) rfl _ #[.int .i64 0, .int .i64 0, .int .u32 0, .int .u32 0, .int .i64 0, .int .u16 0, .int .i64 0] rfl rfl headInfo rfl (head_one _ _ _ _ _ _ _) ?_) | ((with_reducible refine at_store 2 ?_); refine wpList_store_blk rfl 29 (.tmp 2) (.tmp 15) rfl w.heap.size #[.int .i64 0, .int .i64 0, .int .u32 0, .int .u32 0, .int .i64 0, .slice none 0 0, .int .u32 0, .slice none 0 0, .int .i64 0] rfl rfl (BlkAt.there hR2.out 0 9 (Nat.le_refl 9)) lsaInfo (lsa_one _ _ _ _ _ _ _ _ _ (slice_one _ _ _) (slice_one _ _ _)) ?_; intro w9 hr9 hs9))
  have e0 := rangeAt_cell hr9.out 0 _ rfl
  have e1 := rangeAt_cell hr9.out 1 _ rfl
  have e2 := rangeAt_cell hr9.out 2 _ rfl
  have e3 := rangeAt_cell hr9.out 3 _ rfl
  have e4 := rangeAt_cell hr9.out 4 _ rfl
  have e5 := rangeAt_cell hr9.out 5 _ rfl
  have e6 := rangeAt_cell hr9.out 6 _ rfl
  have e7 := rangeAt_cell hr9.out 7 _ rfl
  have e8 := rangeAt_cell hr9.out 8 _ rfl
  refine bodyPost_ret (v := .tuple #[.agg #[.int .i64 0, .int .i64 0, .int .u32 0, .int .u32 0, .int .i64 0, .slice none 0 0, .int .u32 0, .slice none 0 0, .int .i64 0], .int .i64 4]) (by simp [results, Try.results105, go_sem, e0, e1, e2, e3, e4, e5, e6, e7, e8]) rfl ⟨⟨_, by rw [hg'.out], by rw [hg'.out]; exact LsaF.zero _ _⟩, hk2.out.trans' hs9.out (fun i e => .inr (by omega))⟩
end Go.Proofs.Ytdaongflpllfhaa
/- lsa.Get of 20 bytes or more, walked. -/
namespace Go.Proofs.Ytdaongflpllfhaa
open Go.RowKit

theorem lsHead_r (g o c : Nat) (l : List UInt8) (hl : 20 ≤ l.length) (hl2 : l.length ≤ 9223372036854775807) (hc : l.length ≤ c) (age type seq len : Int) (lid adv sum : Nat) (w : World) (hr : Hid (w.rangeAt g o (l.map bv))) (hh : Hid (headOf l = ⟨age, type, lid, adv, seq, sum, len⟩)) :
    Calls Try.prog 55 #[.slice (some ⟨g, o, none⟩) l.length c] w fun e w' => e = .returned (.tuple #[.agg #[.int .i64 age, .int .i64 type, .int .u32 lid, .int .u32 adv, .int .i64 seq, .int .u16 sum, .int .i64 len], .int .i64 0]) ∧ Keeps (fun _ => False) w w' := by
  have := lsHead_yes g o c l hl hl2 hc w hr
  rw [hh.out] at this
  exact this
theorem suRight_r (sl : Value) (l : List UInt8) (r : Bool) (hl : l.length ≤ 9223372036854775807) (w : World) (h : Hid (BytesAt w sl l)) (hr : Hid (rightF l = r)) :
    Calls Try.prog 116 #[sl] w fun e w' => e = .returned (.bool r) ∧ w = w' := by rw [← hr.out]; exact suRight_any sl l hl w h

set_option maxRecDepth 100000 in
set_option maxHeartbeats 4000000 in
theorem lsGet_b1 (g o c : Nat) (x : List UInt8) (hx : 20 ≤ x.length) (hx2 : x.length ≤ 1000000) (hc : x.length ≤ c) (age type seq len : Int) (lid adv sum : Nat) (w : World) (hr : Hid (w.rangeAt g o (x.map bv))) (hh : Hid (headOf x = ⟨age, type, lid, adv, seq, sum, len⟩)) (hri : Hid (rightF (x.drop 2) = false)) :
    Calls Try.prog 105 #[.slice (some ⟨g, o, none⟩) x.length c] w (GetPost x w) := by
  have hg : getL x = (zeroL, 8) := by unfold getL; rw [if_neg (by omega), if_pos (.inl hri.out)]
  have hg' := Lib.hid hg; clear hg
  have hR : Hid (BlkAt (w.alloc (.cells #[.int .i64 0, .int .i64 0, .int .u32 0, .int .u32 0, .int .i64 0, .slice none 0 0, .int .u32 0, .slice none 0 0, .int .i64 0] 29)) w.heap.size 29 [.int .i64 0, .int .i64 0, .int .u32 0, .int .u32 0, .int .i64 0, .slice none 0 0, .int .u32 0, .slice none 0 0, .int .i64 0]) := Lib.hid (BlkAt.new w _ _)
  have hk : Hid (Keeps (fun _ => False) w (w.alloc (.cells #[.int .i64 0, .int .i64 0, .int .u32 0, .int .u32 0, .int .i64 0, .slice none 0 0, .int .u32 0, .slice none 0 0, .int .i64 0] 29))) := Lib.hid ((Keeps.refl _ _).alloc _)
  have hsz : Hid (w.heap.size < (w.alloc (.cells #[.int .i64 0, .int .i64 0, .int .u32 0, .int .u32 0, .int .i64 0, .slice none 0 0, .int .u32 0, .slice none 0 0, .int .i64 0] 29)).heap.size) := Lib.hid (by simp)
  go_enter Try.func105, Try.ntmps105
  go_upto_region 1 with fail
  generalize w.alloc (.cells #[.int .i64 0, .int .i64 0, .int .u32 0, .int .u32 0, .int .i64 0, .slice none 0 0, .int .u32 0, .slice none 0 0, .int .i64 0] 29) = w0 at hR hk hsz ⊢
  go_wp2_with fail
  refine (lsHead_r g o c x hx (by omega) hc age type seq len lid adv sum _ (Lib.hid (hk.out.rangeAt hr.out id)) hh).mono ?_
  rintro e w1 ⟨rfl, k1⟩
  have hszB : Hid (w.heap.size < w1.heap.size) := Lib.hid (Nat.lt_of_lt_of_le hsz.out k1.size)
  have hH : Hid (BlkAt (w1.alloc (.cells #[.int .i64 age, .int .i64 type, .int .u32 lid, .int .u32 adv, .int .i64 seq, .int .u16 sum, .int .i64 len] 82)) w1.heap.size 82 [.int .i64 age, .int .i64 type, .int .u32 lid, .int .u32 adv, .int .i64 seq, .int .u16 sum, .int .i64 len]) := Lib.hid (BlkAt.new w1 _ _)
  have hR2 := Lib.hid ((hR.out.keep k1 id).alloc (.cells #[.int .i64 age, .int .i64 type, .int .u32 lid, .int .u32 adv, .int .i64 seq, .int .u16 sum, .int .i64 len] 82))
  have hk2 := Lib.hid ((hk.out.trans k1).alloc (.cells #[.int .i64 age, .int .i64 type, .int .u32 lid, .int .u32 adv, .int .i64 seq, .int .u16 sum, .int .i64 len] 82))
  clear k1 hR hk hsz
  go_upto_region 4 with ((with_reducible refine at_store 4 ?_); refine wpList_store_new rfl 82 (.tmp 4) (.tmp 11) rfl _ #[.int .i64 age, .int .i64 type, .int .u32 lid, .int .u32 adv, .int .i64 seq, .int .u16 sum, .int .i64 len] rfl rfl headInfo rfl (head_one _ _ _ _ _ _ _) ?_)
  generalize w1.alloc (.cells #[.int .i64 age, .int .i64 type, .int .u32 lid, .int .u32 adv, .int .i64 seq, .int .u16 sum, .int .i64 len] 82) = w2 at hR2 hk2 hH ⊢
  have hr2 := Lib.hid (hk2.out.rangeAt hr.out id)
  have hb2 := Lib.hid (bytes_tail hr2.out hc 2 (by omega))
  rw [if_neg (by omega)] at hb2
  go_wp2_with fail
  refine (suRight_r _ (x.drop 2) false (by simp; omega) _ hb2 hri).mono ?_
  rintro e w' ⟨rfl, rfl⟩
  go_wp2_with ((with_reducible refine at_store 2 ?_); refine wpList_store_blk rfl 29 (.tmp 2) (.tmp 33) rfl w.heap.size #[.int .i64 0, .int .i64 0, .int .u32 0, .int .u32 0, .int .i64 0, .slice none 0 0, .int .u32 0, .slice none 0 0, .int .i64 0] rfl rfl (BlkAt.there hR2.out 0 9 (Nat.le_refl 9)) lsaInfo (lsa_one _ _ _ _ _ _ _ _ _ (slice_one _ _ _) (slice_one _ _ _)) ?_; intro w9 hr9 hs9)
  have e0 := rangeAt_cell hr9.out 0 _ rfl
  have e1 := rangeAt_cell hr9.out 1 _ rfl
  have e2 := rangeAt_cell hr9.out 2 _ rfl
  have e3 := rangeAt_cell hr9.out 3 _ rfl
  have e4 := rangeAt_cell hr9.out 4 _ rfl
  have e5 := rangeAt_cell hr9.out 5 _ rfl
  have e6 := rangeAt_cell hr9.out 6 _ rfl
  have e7 := rangeAt_cell hr9.out 7 _ rfl
  have e8 := rangeAt_cell hr9.out 8 _ rfl
  refine bodyPost_ret (v := .tuple #[.agg #[.int .i64 0, .int .i64 0, .int .u32 0, .int .u32 0, .int .i64 0, .slice none 0 0, .int .u32 0, .slice none 0 0, .int .i64 0], .int .i64 8]) (by simp [results, Try.results105, go_sem, e0, e1, e2, e3, e4, e5, e6, e7, e8]) rfl ⟨⟨_, by rw [hg'.out], by rw [hg'.out]; exact LsaF.zero _ _⟩, hk2.out.trans' hs9.out (fun i e => .inr (by omega))⟩
set_option maxRecDepth 100000 in
set_option maxHeartbeats 4000000 in
theorem lsGet_b2 (g o c : Nat) (x : List UInt8) (hx : 20 ≤ x.length) (hx2 : x.length ≤ 1000000) (hc : x.length ≤ c) (age type seq len : Int) (lid adv sum : Nat) (w : World) (hr : Hid (w.rangeAt g o (x.map bv))) (hh : Hid (headOf x = ⟨age, type, lid, adv, seq, sum, len⟩)) (hri : Hid (rightF (x.drop 2) = true)) (h16 : x[16]'(by omega) = 255) :
    Calls Try.prog 105 #[.slice (some ⟨g, o, none⟩) x.length c] w (GetPost x w) := by
  have hg : getL x = (zeroL, 8) := by unfold getL; rw [if_neg (by omega), if_pos (.inr (.inl (by rw [List.getD_eq_getElem?_getD, List.getElem?_eq_getElem (by omega)]; exact h16)))]
  have hg' := Lib.hid hg; clear hg
  have hR : Hid (BlkAt (w.alloc (.cells #[.int .i64 0, .int .i64 0, .int .u32 0, .int .u32 0, .int .i64 0, .slice none 0 0, .int .u32 0, .slice none 0 0, .int .i64 0] 29)) w.heap.size 29 [.int .i64 0, .int .i64 0, .int .u32 0, .int .u32 0, .int .i64 0, .slice none 0 0, .int .u32 0, .slice none 0 0, .int .i64 0]) := Lib.hid (BlkAt.new w _ _)
  have hk : Hid (Keeps (fun _ => False) w (w.alloc (.cells #[.int .i64 0, .int .i64 0, .int .u32 0, .int .u32 0, .int .i64 0, .slice none 0 0, .int .u32 0, .slice none 0 0, .int .i64 0] 29))) := Lib.hid ((Keeps.refl _ _).alloc _)
  have hsz : Hid (w.heap.size < (w.alloc (.cells #[.int .i64 0, .int .i64 0, .int .u32 0, .int .u32 0, .int .i64 0, .slice none 0 0, .int .u32 0, .slice none 0 0, .int .i64 0] 29)).heap.size) := Lib.hid (by simp)
  go_enter Try.func105, Try.ntmps105
  go_upto_region 1 with fail
  generalize w.alloc (.cells #[.int .i64 0, .int .i64 0, .int .u32 0, .int .u32 0, .int .i64 0, .slice none 0 0, .int .u32 0, .slice none 0 0, .int .i64 0] 29) = w0 at hR hk hsz ⊢
  go_wp2_with fail
  refine (lsHead_r g o c x hx (by omega) hc age type seq len lid adv sum _ (Lib.hid (hk.out.rangeAt hr.out id)) hh).mono ?_
  rintro e w1 ⟨rfl, k1⟩
  have hszB : Hid (w.heap.size < w1.heap.size) := Lib.hid (Nat.lt_of_lt_of_le hsz.out k1.size)
  have hH : Hid (BlkAt (w1.alloc (.cells #[.int .i64 age, .int .i64 type, .int .u32 lid, .int .u32 adv, .int .i64 seq, .int .u16 sum, .int .i64 len] 82)) w1.heap.size 82 [.int .i64 age, .int .i64 type, .int .u32 lid, .int .u32 adv, .int .i64 seq, .int .u16 sum, .int .i64 len]) := Lib.hid (BlkAt.new w1 _ _)
  have hR2 := Lib.hid ((hR.out.keep k1 id).alloc (.cells #[.int .i64 age, .int .i64 type, .int .u32 lid, .int .u32 adv, .int .i64 seq, .int .u16 sum, .int .i64 len] 82))
  have hk2 := Lib.hid ((hk.out.trans k1).alloc (.cells #[.int .i64 age, .int .i64 type, .int .u32 lid, .int .u32 adv, .int .i64 seq, .int .u16 sum, .int .i64 len] 82))
  clear k1 hR hk hsz
  go_upto_region 4 with ((with_reducible refine at_store 4 ?_); refine wpList_store_new rfl 82 (.tmp 4) (.tmp 11) rfl _ #[.int .i64 age, .int .i64 type, .int .u32 lid, .int .u32 adv, .int .i64 seq, .int .u16 sum, .int .i64 len] rfl rfl headInfo rfl (head_one _ _ _ _ _ _ _) ?_)
  generalize w1.alloc (.cells #[.int .i64 age, .int .i64 type, .int .u32 lid, .int .u32 adv, .int .i64 seq, .int .u16 sum, .int .i64 len] 82) = w2 at hR2 hk2 hH ⊢
  have hr2 := Lib.hid (hk2.out.rangeAt hr.out id)
  have hb2 := Lib.hid (bytes_tail hr2.out hc 2 (by omega))
  rw [if_neg (by omega)] at hb2
  have c16 := drop_cell hr2.out 16 (by omega)
  have e16' : (((x[16]'(by omega)).toNat : Int) == 255) = true := by rw [h16]; rfl
  have h16' := Lib.hid h16; clear h16
  go_wp2_with fail
  refine (suRight_r _ (x.drop 2) true (by simp; omega) _ hb2 hri).mono ?_
  rintro e w' ⟨rfl, rfl⟩
  go_wp2_with ((with_reducible refine at_store 2 ?_); refine wpList_store_blk rfl 29 (.tmp 2) (.tmp 33) rfl w.heap.size #[.int .i64 0, .int .i64 0, .int .u32 0, .int .u32 0, .int .i64 0, .slice none 0 0, .int .u32 0, .slice none 0 0, .int .i64 0] rfl rfl (BlkAt.there hR2.out 0 9 (Nat.le_refl 9)) lsaInfo (lsa_one _ _ _ _ _ _ _ _ _ (slice_one _ _ _) (slice_one _ _ _)) ?_; intro w9 hr9 hs9)
  have e0 := rangeAt_cell hr9.out 0 _ rfl
  have e1 := rangeAt_cell hr9.out 1 _ rfl
  have e2 := rangeAt_cell hr9.out 2 _ rfl
  have e3 := rangeAt_cell hr9.out 3 _ rfl
  have e4 := rangeAt_cell hr9.out 4 _ rfl
  have e5 := rangeAt_cell hr9.out 5 _ rfl
  have e6 := rangeAt_cell hr9.out 6 _ rfl
  have e7 := rangeAt_cell hr9.out 7 _ rfl
  have e8 := rangeAt_cell hr9.out 8 _ rfl
  refine bodyPost_ret (v := .tuple #[.agg #[.int .i64 0, .int .i64 0, .int .u32 0, .int .u32 0, .int .i64 0, .slice none 0 0, .int .u32 0, .slice none 0 0, .int .i64 0], .int .i64 8]) (by simp [results, Try.results105, go_sem, e0, e1, e2, e3, e4, e5, e6, e7, e8]) rfl ⟨⟨_, by rw [hg'.out], by rw [hg'.out]; exact LsaF.zero _ _⟩, hk2.out.trans' hs9.out (fun i e => .inr (by omega))⟩
set_option maxRecDepth 100000 in
set_option maxHeartbeats 4000000 in
theorem lsGet_b3 (g o c : Nat) (x : List UInt8) (hx : 20 ≤ x.length) (hx2 : x.length ≤ 1000000) (hc : x.length ≤ c) (age type seq len : Int) (lid adv sum : Nat) (w : World) (hr : Hid (w.rangeAt g o (x.map bv))) (hh : Hid (headOf x = ⟨age, type, lid, adv, seq, sum, len⟩)) (hri : Hid (rightF (x.drop 2) = true)) (h16 : x[16]'(by omega) ≠ 255) (h17 : x[17]'(by omega) = 255) :
    Calls Try.prog 105 #[.slice (some ⟨g, o, none⟩) x.length c] w (GetPost x w) := by
  have hg : getL x = (zeroL, 8) := by unfold getL; rw [if_neg (by omega), if_pos (.inr (.inr (by rw [List.getD_eq_getElem?_getD, List.getElem?_eq_getElem (by omega)]; exact h17)))]
  have hg' := Lib.hid hg; clear hg
  have hR : Hid (BlkAt (w.alloc (.cells #[.int .i64 0, .int .i64 0, .int .u32 0, .int .u32 0, .int .i64 0, .slice none 0 0, .int .u32 0, .slice none 0 0, .int .i64 0] 29)) w.heap.size 29 [.int .i64 0, .int .i64 0, .int .u32 0, .int .u32 0, .int .i64 0, .slice none 0 0, .int .u32 0, .slice none 0 0, .int .i64 0]) := Lib.hid (BlkAt.new w _ _)
  have hk : Hid (Keeps (fun _ => False) w (w.alloc (.cells #[.int .i64 0, .int .i64 0, .int .u32 0, .int .u32 0, .int .i64 0, .slice none 0 0, .int .u32 0, .slice none 0 0, .int .i64 0] 29))) := Lib.hid ((Keeps.refl _ _).alloc _)
  have hsz : Hid (w.heap.size < (w.alloc (.cells #[.int .i64 0, .int .i64 0, .int .u32 0, .int .u32 0, .int .i64 0, .slice none 0 0, .int .u32 0, .slice none 0 0, .int .i64 0] 29)).heap.size) := Lib.hid (by simp)
  go_enter Try.func105, Try.ntmps105
  go_upto_region 1 with fail
  generalize w.alloc (.cells #[.int .i64 0, .int .i64 0, .int .u32 0, .int .u32 0, .int .i64 0, .slice none 0 0, .int .u32 0, .slice none 0 0, .int .i64 0] 29) = w0 at hR hk hsz ⊢
  go_wp2_with fail
  refine (lsHead_r g o c x hx (by omega) hc age type seq len lid adv sum _ (Lib.hid (hk.out.rangeAt hr.out id)) hh).mono ?_
  rintro e w1 ⟨rfl, k1⟩
  have hszB : Hid (w.heap.size < w1.heap.size) := Lib.hid (Nat.lt_of_lt_of_le hsz.out k1.size)
  have hH : Hid (BlkAt (w1.alloc (.cells #[.int .i64 age, .int .i64 type, .int .u32 lid, .int .u32 adv, .int .i64 seq, .int .u16 sum, .int .i64 len] 82)) w1.heap.size 82 [.int .i64 age, .int .i64 type, .int .u32 lid, .int .u32 adv, .int .i64 seq, .int .u16 sum, .int .i64 len]) := Lib.hid (BlkAt.new w1 _ _)
  have hR2 := Lib.hid ((hR.out.keep k1 id).alloc (.cells #[.int .i64 age, .int .i64 type, .int .u32 lid, .int .u32 adv, .int .i64 seq, .int .u16 sum, .int .i64 len] 82))
  have hk2 := Lib.hid ((hk.out.trans k1).alloc (.cells #[.int .i64 age, .int .i64 type, .int .u32 lid, .int .u32 adv, .int .i64 seq, .int .u16 sum, .int .i64 len] 82))
  clear k1 hR hk hsz
  go_upto_region 4 with ((with_reducible refine at_store 4 ?_); refine wpList_store_new rfl 82 (.tmp 4) (.tmp 11) rfl _ #[.int .i64 age, .int .i64 type, .int .u32 lid, .int .u32 adv, .int .i64 seq, .int .u16 sum, .int .i64 len] rfl rfl headInfo rfl (head_one _ _ _ _ _ _ _) ?_)
  generalize w1.alloc (.cells #[.int .i64 age, .int .i64 type, .int .u32 lid, .int .u32 adv, .int .i64 seq, .int .u16 sum, .int .i64 len] 82) = w2 at hR2 hk2 hH ⊢
  have hr2 := Lib.hid (hk2.out.rangeAt hr.out id)
  have hb2 := Lib.hid (bytes_tail hr2.out hc 2 (by omega))
  rw [if_neg (by omega)] at hb2
  have c16 := drop_cell hr2.out 16 (by omega)
  have e16' : (((x[16]'(by omega)).toNat : Int) == 255) = false := by rw [beq_eq_false_iff_ne]; intro h; apply h16; apply UInt8.toNat_inj.mp; show (x[16]'(by omega)).toNat = 255; omega
  have c17 := drop_cell hr2.out 17 (by omega)
  have e17' : (((x[17]'(by omega)).toNat : Int) == 255) = true := by rw [h17]; rfl
  have h17' := Lib.hid h17; clear h16 h17
  go_wp2_with fail
  refine (suRight_r _ (x.drop 2) true (by simp; omega) _ hb2 hri).mono ?_
  rintro e w' ⟨rfl, rfl⟩
  go_wp2_with ((with_reducible refine at_store 2 ?_); refine wpList_store_blk rfl 29 (.tmp 2) (.tmp 33) rfl w.heap.size #[.int .i64 0, .int .i64 0, .int .u32 0, .int .u32 0, .int .i64 0, .slice none 0 0, .int .u32 0, .slice none 0 0, .int .i64 0] rfl rfl (BlkAt.there hR2.out 0 9 (Nat.le_refl 9)) lsaInfo (lsa_one _ _ _ _ _ _ _ _ _ (slice_one _ _ _) (slice_one _ _ _)) ?_; intro w9 hr9 hs9)
  have e0 := rangeAt_cell hr9.out 0 _ rfl
  have e1 := rangeAt_cell hr9.out 1 _ rfl
  have e2 := rangeAt_cell hr9.out 2 _ rfl
  have e3 := rangeAt_cell hr9.out 3 _ rfl
  have e4 := rangeAt_cell hr9.out 4 _ rfl
  have e5 := rangeAt_cell hr9.out 5 _ rfl
  have e6 := rangeAt_cell hr9.out 6 _ rfl
  have e7 := rangeAt_cell hr9.out 7 _ rfl
  have e8 := rangeAt_cell hr9.out 8 _ rfl
  refine bodyPost_ret (v := .tuple #[.agg #[.int .i64 0, .int .i64 0, .int .u32 0, .int .u32 0, .int .i64 0, .slice none 0 0, .int .u32 0, .slice none 0 0, .int .i64 0], .int .i64 8]) (by simp [results, Try.results105, go_sem, e0, e1, e2, e3, e4, e5, e6, e7, e8]) rfl ⟨⟨_, by rw [hg'.out], by rw [hg'.out]; exact LsaF.zero _ _⟩, hk2.out.trans' hs9.out (fun i e => .inr (by omega))⟩
set_option maxRecDepth 100000 in
set_option maxHeartbeats 4000000 in
theorem lsGet_c (g o c : Nat) (x : List UInt8) (hx : 20 ≤ x.length) (hx2 : x.length ≤ 1000000) (hc : x.length ≤ c) (age type seq len : Int) (lid adv sum : Nat) (w : World) (hr : Hid (w.rangeAt g o (x.map bv))) (hh : Hid (headOf x = ⟨age, type, lid, adv, seq, sum, len⟩)) (hri : Hid (rightF (x.drop 2) = true)) (h16 : x[16]'(by omega) ≠ 255) (h17 : x[17]'(by omega) ≠ 255) (hlen : len ≠ (x.length : Int)) :
    Calls Try.prog 105 #[.slice (some ⟨g, o, none⟩) x.length c] w (GetPost x w) := by
  have hnb : ¬ (rightF (x.drop 2) = false ∨ x.getD 16 0 = 255 ∨ x.getD 17 0 = 255) := by
    rw [List.getD_eq_getElem?_getD, List.getElem?_eq_getElem (by omega), List.getD_eq_getElem?_getD, List.getElem?_eq_getElem (by omega), hri.out]
    rintro (h | h | h)
    · cases h
    · exact h16 h
    · exact h17 h
  have hg : getL x = (zeroL, 3) := by unfold getL; rw [if_neg (by omega), if_neg hnb, if_pos (by rw [hh.out]; exact hlen)]
  clear hnb
  have hg' := Lib.hid hg; clear hg
  have hR : Hid (BlkAt (w.alloc (.cells #[.int .i64 0, .int .i64 0, .int .u32 0, .int .u32 0, .int .i64 0, .slice none 0 0, .int .u32 0, .slice none 0 0, .int .i64 0] 29)) w.heap.size 29 [.int .i64 0, .int .i64 0, .int .u32 0, .int .u32 0, .int .i64 0, .slice none 0 0, .int .u32 0, .slice none 0 0, .int .i64 0]) := Lib.hid (BlkAt.new w _ _)
  have hk : Hid (Keeps (fun _ => False) w (w.alloc (.cells #[.int .i64 0, .int .i64 0, .int .u32 0, .int .u32 0, .int .i64 0, .slice none 0 0, .int .u32 0, .slice none 0 0, .int .i64 0] 29))) := Lib.hid ((Keeps.refl _ _).alloc _)
  have hsz : Hid (w.heap.size < (w.alloc (.cells #[.int .i64 0, .int .i64 0, .int .u32 0, .int .u32 0, .int .i64 0, .slice none 0 0, .int .u32 0, .slice none 0 0, .int .i64 0] 29)).heap.size) := Lib.hid (by simp)
  go_enter Try.func105, Try.ntmps105
  go_upto_region 1 with fail
  generalize w.alloc (.cells #[.int .i64 0, .int .i64 0, .int .u32 0, .int .u32 0, .int .i64 0, .slice none 0 0, .int .u32 0, .slice none 0 0, .int .i64 0] 29) = w0 at hR hk hsz ⊢
  go_wp2_with fail
  refine (lsHead_r g o c x hx (by omega) hc age type seq len lid adv sum _ (Lib.hid (hk.out.rangeAt hr.out id)) hh).mono ?_
  rintro e w1 ⟨rfl, k1⟩
  have hszB : Hid (w.heap.size < w1.heap.size) := Lib.hid (Nat.lt_of_lt_of_le hsz.out k1.size)
  have hH : Hid (BlkAt (w1.alloc (.cells #[.int .i64 age, .int .i64 type, .int .u32 lid, .int .u32 adv, .int .i64 seq, .int .u16 sum, .int .i64 len] 82)) w1.heap.size 82 [.int .i64 age, .int .i64 type, .int .u32 lid, .int .u32 adv, .int .i64 seq, .int .u16 sum, .int .i64 len]) := Lib.hid (BlkAt.new w1 _ _)
  have hR2 := Lib.hid ((hR.out.keep k1 id).alloc (.cells #[.int .i64 age, .int .i64 type, .int .u32 lid, .int .u32 adv, .int .i64 seq, .int .u16 sum, .int .i64 len] 82))
  have hk2 := Lib.hid ((hk.out.trans k1).alloc (.cells #[.int .i64 age, .int .i64 type, .int .u32 lid, .int .u32 adv, .int .i64 seq, .int .u16 sum, .int .i64 len] 82))
  clear k1 hR hk hsz
  go_upto_region 4 with ((with_reducible refine at_store 4 ?_); refine wpList_store_new rfl 82 (.tmp 4) (.tmp 11) rfl _ #[.int .i64 age, .int .i64 type, .int .u32 lid, .int .u32 adv, .int .i64 seq, .int .u16 sum, .int .i64 len] rfl rfl headInfo rfl (head_one _ _ _ _ _ _ _) ?_)
  generalize w1.alloc (.cells #[.int .i64 age, .int .i64 type, .int .u32 lid, .int .u32 adv, .int .i64 seq, .int .u16 sum, .int .i64 len] 82) = w2 at hR2 hk2 hH ⊢
  have hr2 := Lib.hid (hk2.out.rangeAt hr.out id)
  have hb2 := Lib.hid (bytes_tail hr2.out hc 2 (by omega))
  rw [if_neg (by omega)] at hb2
  have c16 := drop_cell hr2.out 16 (by omega)
  have e16' : (((x[16]'(by omega)).toNat : Int) == 255) = false := by rw [beq_eq_false_iff_ne]; intro h; apply h16; apply UInt8.toNat_inj.mp; show (x[16]'(by omega)).toNat = 255; omega
  have c17 := drop_cell hr2.out 17 (by omega)
  have e17' : (((x[17]'(by omega)).toNat : Int) == 255) = false := by rw [beq_eq_false_iff_ne]; intro h; apply h17; apply UInt8.toNat_inj.mp; show (x[17]'(by omega)).toNat = 255; omega
  have hl1 : (len != (x.length : Int)) = true := by rw [bne_iff_ne]; exact hlen
  have b6 := hH.out.cell 6 (.int .i64 len) rfl
  clear h16 h17 hlen
  go_wp2_with fail
  refine (suRight_r _ (x.drop 2) true (by simp; omega) _ hb2 hri).mono ?_
  rintro e w' ⟨rfl, rfl⟩
  go_wp2_with ((with_reducible refine at_store 2 ?_); refine wpList_store_blk rfl 29 (.tmp 2) (.tmp 39) rfl w.heap.size #[.int .i64 0, .int .i64 0, .int .u32 0, .int .u32 0, .int .i64 0, .slice none 0 0, .int .u32 0, .slice none 0 0, .int .i64 0] rfl rfl (BlkAt.there hR2.out 0 9 (Nat.le_refl 9)) lsaInfo (lsa_one _ _ _ _ _ _ _ _ _ (slice_one _ _ _) (slice_one _ _ _)) ?_; intro w9 hr9 hs9)
  have e0 := rangeAt_cell hr9.out 0 _ rfl
  have e1 := rangeAt_cell hr9.out 1 _ rfl
  have e2 := rangeAt_cell hr9.out 2 _ rfl
  have e3 := rangeAt_cell hr9.out 3 _ rfl
  have e4 := rangeAt_cell hr9.out 4 _ rfl
  have e5 := rangeAt_cell hr9.out 5 _ rfl
  have e6 := rangeAt_cell hr9.out 6 _ rfl
  have e7 := rangeAt_cell hr9.out 7 _ rfl
  have e8 := rangeAt_cell hr9.out 8 _ rfl
  refine bodyPost_ret (v := .tuple #[.agg #[.int .i64 0, .int .i64 0, .int .u32 0, .int .u32 0, .int .i64 0, .slice none 0 0, .int .u32 0, .slice none 0 0, .int .i64 0], .int .i64 3]) (by simp [results, Try.results105, go_sem, e0, e1, e2, e3, e4, e5, e6, e7, e8]) rfl ⟨⟨_, by rw [hg'.out], by rw [hg'.out]; exact LsaF.zero _ _⟩, hk2.out.trans' hs9.out (fun i e => .inr (by omega))⟩
end Go.Proofs.Ytdaongflpllfhaa
/- lsa.Get of what may be an Lsa, walked. -/
namespace Go.Proofs.Ytdaongflpllfhaa
open Go.RowKit

theorem key_range {w : World} {B : Nat} {t : TypeId} {a b d e f g h : Value} (hb : BlkAt w B t [a, b, d, e, f, g, h]) : w.rangeAt B 1 [b, d, e] := fun j u hu => by
  have := hb.range (1 + j) u (by
    match j, hu with
    | 0, hu => exact hu
    | 1, hu => exact hu
    | 2, hu => exact hu
    | j + 3, hu => simp at hu)
  rw [Nat.zero_add] at this; exact this
/-- an Lsa as a value, its lists not in block B -/
def LsaX (lo : Nat) (w : World) (v : Value) (m : LsaD) (B : Nat) : Prop :=
  ∃ p5 c5 p7 c7, v = .agg #[.int .i64 m.age, .int .i64 m.type, .int .u32 m.id, .int .u32 m.adv, .int .i64 m.seq, .slice p5 m.links.length c5, .int .u32 m.mask, .slice p7 m.routers.length c7, .int .i64 m.cost] ∧ LinksAt w (.slice p5 m.links.length c5) m.links ∧ NumsAt w (.slice p7 m.routers.length c7) m.routers ∧ (0 < m.links.length → ∀ i n c, (Value.slice p5 n c).ownBlock = some i → i ≠ B) ∧ (0 < m.routers.length → ∀ i n c, (Value.slice p7 n c).ownBlock = some i → i ≠ B) ∧ (∀ i n c, (Value.slice p5 n c).ownBlock = some i → lo ≤ i) ∧ (∀ i n c, (Value.slice p7 n c).ownBlock = some i → lo ≤ i)
theorem LinksAt.lt {w : World} {p : Option Addr} {n c : Nat} {ls : List LinkD} (h : LinksAt w (.slice p n c) ls) (h0 : 0 < ls.length) : ∀ i n c, (Value.slice p n c).ownBlock = some i → i < w.heap.size := fun i n' c' e => by
  obtain ⟨p', c'', e', -, -, hr⟩ := h
  obtain ⟨g, o, e2, hra⟩ := hr h0
  injection e' with e1 e3 e4
  subst e1; subst e2
  simp only [Value.ownBlock, Option.some.injEq] at e
  subst e
  have := hra 0 ls[0] (by simp) 0 _ rfl
  exact World.block_lt_of_cell? w _ this
theorem NumsAt.lt {w : World} {p : Option Addr} {n c : Nat} {ls : List Nat} (h : NumsAt w (.slice p n c) ls) (h0 : 0 < ls.length) : ∀ i n c, (Value.slice p n c).ownBlock = some i → i < w.heap.size := fun i n' c' e => by
  obtain ⟨p', c'', e', -, -, hr⟩ := h
  obtain ⟨g, o, e2, hra⟩ := hr h0
  injection e' with e1 e3 e4
  subst e1; subst e2
  simp only [Value.ownBlock, Option.some.injEq] at e
  subst e
  have := hra 0 (nv ls[0]) (by rw [List.getElem?_map, List.getElem?_eq_getElem h0]; rfl)
  exact World.block_lt_of_cell? w _ this
theorem LsaF.keep {w0 w w' : World} {v : Value} {m : LsaD} (h : LsaF w0 w v m) (k : Keeps (fun _ => False) w w') : LsaF w0 w' v m := by
  obtain ⟨p5, c5, p7, c7, rfl, h1, h2, h3, h4⟩ := h
  exact ⟨p5, c5, p7, c7, rfl, h1.keep k, h2.keep k, h3, h4⟩
theorem LsaX.keep {lo : Nat} {w w' : World} {v : Value} {m : LsaD} {B : Nat} (h : LsaX lo w v m B) (k : Keeps (fun _ => False) w w') : LsaX lo w' v m B := by
  obtain ⟨p5, c5, p7, c7, rfl, h1, h2, h3⟩ := h
  exact ⟨p5, c5, p7, c7, rfl, h1.keep k, h2.keep k, h3⟩
theorem LsaF.older {w0 w1 w : World} {v : Value} {m : LsaD} (h : LsaF w1 w v m) (hs : w0.heap.size ≤ w1.heap.size) : LsaF w0 w v m := by
  obtain ⟨p5, c5, p7, c7, rfl, h1, h2, h3, h4⟩ := h
  exact ⟨p5, c5, p7, c7, rfl, h1, h2, fun i n c e => Nat.le_trans hs (h3 i n c e), fun i n c e => Nat.le_trans hs (h4 i n c e)⟩
theorem LsaF.away {w0 w : World} {v : Value} {m : LsaD} (h : LsaF w0 w v m) {B : Nat} (hB : B < w0.heap.size) {lo : Nat} (hlo : lo ≤ w0.heap.size) : LsaX lo w v m B := by
  obtain ⟨p5, c5, p7, c7, rfl, h1, h2, h3, h4⟩ := h
  exact ⟨p5, c5, p7, c7, rfl, h1, h2, fun _ i n c e => by have := h3 i n c e; omega, fun _ i n c e => by have := h4 i n c e; omega, fun i n c e => Nat.le_trans hlo (h3 i n c e), fun i n c e => Nat.le_trans hlo (h4 i n c e)⟩
theorem LsaF.away2 {w0 w : World} {v : Value} {m : LsaD} (h : LsaF w0 w v m) : LsaX w0.heap.size w v m w.heap.size := by
  obtain ⟨p5, c5, p7, c7, rfl, h1, h2, h3, h4⟩ := h
  exact ⟨p5, c5, p7, c7, rfl, h1, h2, fun h0 i n c e => by have := h1.lt h0 i n c e; omega, fun h0 i n c e => by have := h2.lt h0 i n c e; omega, h3, h4⟩
/-- an Lsa in a block of its own -/
def LsaBox (w : World) (v : Value) (m : LsaD) (lo : Nat) : Prop :=
  ∃ B p5 c5 p7 c7, v = .pointer (some ⟨B, 0, none⟩) ∧ lo ≤ B ∧ w.rangeAt B 0 [.int .i64 m.age, .int .i64 m.type, .int .u32 m.id, .int .u32 m.adv, .int .i64 m.seq, .slice p5 m.links.length c5, .int .u32 m.mask, .slice p7 m.routers.length c7, .int .i64 m.cost] ∧ LinksAt w (.slice p5 m.links.length c5) m.links ∧ NumsAt w (.slice p7 m.routers.length c7) m.routers ∧ (∀ i n c, (Value.slice p5 n c).ownBlock = some i → lo ≤ i) ∧ (∀ i n c, (Value.slice p7 n c).ownBlock = some i → lo ≤ i)
set_option maxRecDepth 100000 in
set_option maxHeartbeats 4000000 in
theorem lsGet_d (g o c : Nat) (x : List UInt8) (hx : 20 ≤ x.length) (hx2 : x.length ≤ 1000000) (hc : x.length ≤ c) (age type seq len : Int) (lid adv sum : Nat) (w : World) (hr : Hid (w.rangeAt g o (x.map bv))) (hh : Hid (headOf x = ⟨age, type, lid, adv, seq, sum, len⟩)) (hri : Hid (rightF (x.drop 2) = true)) (h16 : x[16]'(by omega) ≠ 255) (h17 : x[17]'(by omega) ≠ 255) (hlen : Hid (len = (x.length : Int))) (mage mtype mseq mcost : Int) (mid madv mmask : Nat) (mlinks : List LinkD) (mrouters : List Nat) (hm : Hid (hearD age type lid adv seq (x.drop 20) = ⟨mage, mtype, mid, madv, mseq, mlinks, mmask, mrouters, mcost⟩)) (hml : mlinks.length ≤ 1000000) (hmr : mrouters.length ≤ 1000000) (hcan : Hid (canB ⟨mage, mtype, mid, madv, mseq, mlinks, mmask, mrouters, mcost⟩ = false)) :
    Calls Try.prog 105 #[.slice (some ⟨g, o, none⟩) x.length c] w (GetPost x w) := by
  have hnb : ¬ (rightF (x.drop 2) = false ∨ x.getD 16 0 = 255 ∨ x.getD 17 0 = 255) := by
    rw [List.getD_eq_getElem?_getD, List.getElem?_eq_getElem (by omega), List.getD_eq_getElem?_getD, List.getElem?_eq_getElem (by omega), hri.out]
    rintro (h | h | h)
    · cases h
    · exact h16 h
    · exact h17 h
  have hg : getL x = (zeroL, 3) := by
    unfold getL
    rw [if_neg (by omega), if_neg hnb, if_neg (by rw [hh.out]; simp [hlen.out]), if_neg]
    rintro ⟨h, _⟩
    rw [hh.out] at h
    unfold hearH at h
    rw [hm.out, hcan.out] at h; cases h
  clear hnb
  have hg' := Lib.hid hg; clear hg
  have hR : Hid (BlkAt (w.alloc (.cells #[.int .i64 0, .int .i64 0, .int .u32 0, .int .u32 0, .int .i64 0, .slice none 0 0, .int .u32 0, .slice none 0 0, .int .i64 0] 29)) w.heap.size 29 [.int .i64 0, .int .i64 0, .int .u32 0, .int .u32 0, .int .i64 0, .slice none 0 0, .int .u32 0, .slice none 0 0, .int .i64 0]) := Lib.hid (BlkAt.new w _ _)
  have hk : Hid (Keeps (fun _ => False) w (w.alloc (.cells #[.int .i64 0, .int .i64 0, .int .u32 0, .int .u32 0, .int .i64 0, .slice none 0 0, .int .u32 0, .slice none 0 0, .int .i64 0] 29))) := Lib.hid ((Keeps.refl _ _).alloc _)
  have hsz : Hid (w.heap.size < (w.alloc (.cells #[.int .i64 0, .int .i64 0, .int .u32 0, .int .u32 0, .int .i64 0, .slice none 0 0, .int .u32 0, .slice none 0 0, .int .i64 0] 29)).heap.size) := Lib.hid (by simp)
  go_enter Try.func105, Try.ntmps105
  go_upto_region 1 with fail
  generalize w.alloc (.cells #[.int .i64 0, .int .i64 0, .int .u32 0, .int .u32 0, .int .i64 0, .slice none 0 0, .int .u32 0, .slice none 0 0, .int .i64 0] 29) = w0 at hR hk hsz ⊢
  go_wp2_with fail
  refine (lsHead_r g o c x hx (by omega) hc age type seq len lid adv sum _ (Lib.hid (hk.out.rangeAt hr.out id)) hh).mono ?_
  rintro e w1 ⟨rfl, k1⟩
  have hszB : Hid (w.heap.size < w1.heap.size) := Lib.hid (Nat.lt_of_lt_of_le hsz.out k1.size)
  have hH : Hid (BlkAt (w1.alloc (.cells #[.int .i64 age, .int .i64 type, .int .u32 lid, .int .u32 adv, .int .i64 seq, .int .u16 sum, .int .i64 len] 82)) w1.heap.size 82 [.int .i64 age, .int .i64 type, .int .u32 lid, .int .u32 adv, .int .i64 seq, .int .u16 sum, .int .i64 len]) := Lib.hid (BlkAt.new w1 _ _)
  have hR2 := Lib.hid ((hR.out.keep k1 id).alloc (.cells #[.int .i64 age, .int .i64 type, .int .u32 lid, .int .u32 adv, .int .i64 seq, .int .u16 sum, .int .i64 len] 82))
  have hk2 := Lib.hid ((hk.out.trans k1).alloc (.cells #[.int .i64 age, .int .i64 type, .int .u32 lid, .int .u32 adv, .int .i64 seq, .int .u16 sum, .int .i64 len] 82))
  clear k1 hR hk hsz
  go_upto_region 4 with ((with_reducible refine at_store 4 ?_); refine wpList_store_new rfl 82 (.tmp 4) (.tmp 11) rfl _ #[.int .i64 age, .int .i64 type, .int .u32 lid, .int .u32 adv, .int .i64 seq, .int .u16 sum, .int .i64 len] rfl rfl headInfo rfl (head_one _ _ _ _ _ _ _) ?_)
  generalize w1.alloc (.cells #[.int .i64 age, .int .i64 type, .int .u32 lid, .int .u32 adv, .int .i64 seq, .int .u16 sum, .int .i64 len] 82) = w2 at hR2 hk2 hH ⊢
  have hr2 := Lib.hid (hk2.out.rangeAt hr.out id)
  have hb2 := Lib.hid (bytes_tail hr2.out hc 2 (by omega))
  rw [if_neg (by omega)] at hb2
  have c16 := drop_cell hr2.out 16 (by omega)
  have e16' : (((x[16]'(by omega)).toNat : Int) == 255) = false := by rw [beq_eq_false_iff_ne]; intro h; apply h16; apply UInt8.toNat_inj.mp; show (x[16]'(by omega)).toNat = 255; omega
  have c17 := drop_cell hr2.out 17 (by omega)
  have e17' : (((x[17]'(by omega)).toNat : Int) == 255) = false := by rw [beq_eq_false_iff_ne]; intro h; apply h17; apply UInt8.toNat_inj.mp; show (x[17]'(by omega)).toNat = 255; omega
  have hl1 : (len != (x.length : Int)) = false := by rw [hlen.out]; simp
  have b6 := hH.out.cell 6 (.int .i64 len) rfl
  clear h16 h17
  go_wp2_with fail
  refine (suRight_r _ (x.drop 2) true (by simp; omega) _ hb2 hri).mono ?_
  rintro e w' ⟨rfl, rfl⟩
  have c20 : (20 : Int) ≤ c := by omega
  have x20 : (20 : Int) ≤ x.length := by omega
  have htl0 := bytes_tail hr2.out hc 20 (by omega)
  by_cases hck : c = 20
  · subst hck
    rw [if_pos rfl, show x.length - 20 = 0 by omega] at htl0
    have htl := Lib.hid htl0; clear htl0
    go_upto_region 8 with fail
    clear b6 c16 c17
    refine wp_region_noPanic ?_
    refine wp_region_held_drew (S := (fun W => Keeps (fun _ => False) w2 W)) (by kernel_rfl) (((Keeps.refl (fun _ => False) _).drew)) (fun hHeld => ?_)
    refine tk 0 rfl ?_
    refine tkL 1 rfl (yieldsIf_load_cell (by rfl) 3 (.tmp 40) rfl w1.heap.size 0 rfl _ (fun _ s => (hH.out.keep s id).cell 0 (.int .i64 age) rfl) (fun w s => load_int w _ _ _ s)) ?_
    refine tk 2 rfl ?_
    refine tkL 3 rfl (yieldsIf_load_mid (by rfl) 25 (.tmp 42) rfl w1.heap.size 1 rfl [.int .i64 type, .int .u32 lid, .int .u32 adv] _ (fun _ s => key_range (hH.out.keep s id)) Try.underlying25 rfl keyInfo) ?_
    refine tk 4 rfl ?_
    refine tkL 5 rfl (yieldsIf_load_cell (by rfl) 3 (.tmp 44) rfl w1.heap.size 4 rfl _ (fun _ s => (hH.out.keep s id).cell 4 (.int .i64 seq) rfl) (fun w s => load_int w _ _ _ s)) ?_
    refine tk 6 rfl ?_
    refine tk 7 rfl ?_
    refine tk 8 rfl ?_
    refine wpAnyH_slots [49, 6] [9, 10, 11] (fun L f W =>
        (L 9 = true → L 11 = false → LsaF w2 W (f 49) ⟨mage, mtype, mid, madv, mseq, mlinks, mmask, mrouters, mcost⟩) ∧
        (L 10 = true → L 11 = false → ∃ B, f 6 = .pointer (some ⟨B, 0, none⟩) ∧ w2.heap.size ≤ B ∧ BlkAt W B 29 [.int .i64 0, .int .i64 0, .int .u32 0, .int .u32 0, .int .i64 0, .slice none 0 0, .int .u32 0, .slice none 0 0, .int .i64 0]) ∧
        (L 9 = true → L 10 = true → L 11 = false → ∃ B, f 6 = .pointer (some ⟨B, 0, none⟩) ∧ LsaX w2.heap.size W (f 49) ⟨mage, mtype, mid, madv, mseq, mlinks, mmask, mrouters, mcost⟩ B) ∧
        (L 11 = true → L 9 = true ∧ L 10 = true ∧ LsaBox W (f 6) ⟨mage, mtype, mid, madv, mseq, mlinks, mmask, mrouters, mcost⟩ w2.heap.size)) (by kernel_rfl) (by kernel_rfl) (by kernel_rfl) (by kernel_rfl) (Nat.le_of_ble_eq_true (by kernel_rfl)) hHeld
      (fun L f h => ⟨fun e => absurd (h 9 (by decide)) (by rw [e]; decide), fun e => absurd (h 10 (by decide)) (by rw [e]; decide), fun e => absurd (h 9 (by decide)) (by rw [e]; decide), fun e => absurd (h 11 (by decide)) (by rw [e]; decide)⟩) ?_ ?_
    · refine StepsG.cons (d := 49) rfl rfl (by decide) ?_ (StepsG.cons (d := 6) rfl rfl (by decide) ?_ (StepsG.cons0 rfl rfl ?_ StepsG.nil))
      · intro L f W hG hS hL hdep K hK
        simp only [actOf, List.foldl_cons, List.foldl_nil, Act.put, sA, sZ, sS] at hK ⊢
        rw [if_pos (by rfl)]
        go_simp
        refine (lsHear_n age type seq lid adv _ _ _ (x.drop 20) ⟨mage, mtype, mid, madv, mseq, mlinks, mmask, mrouters, mcost⟩ (by simp; omega) (by simp; omega) _ (Lib.hid (htl.out.keep hS)) hm).mono ?_
        rintro e W' ⟨⟨v, rfl, hV⟩, hk'⟩
        go_wp2_with fail
        refine hK.out _ _ (hS.trans hk') ⟨fun _ _ => hV.older hS.size, fun e10 e11 => ?_, fun _ e10 e11 => ?_, fun e11 => absurd ((hG.2.2.2 e11).1.symm.trans hL) (by decide)⟩
        · obtain ⟨B, h1, h2, h3⟩ := hG.2.1 e10 e11
          exact ⟨B, h1, h2, h3.keep hk' id⟩
        · obtain ⟨B, h1, h2, h3⟩ := hG.2.1 e10 e11
          exact ⟨B, h1, hV.away (lt_of_block h3) hS.size⟩
      · intro L f W hG hS hL hdep K hK
        simp only [actOf, List.foldl_cons, List.foldl_nil, Act.put, sA, sZ, sS] at hK ⊢
        rw [if_pos (by rfl)]
        go_simp
        have hk' : Keeps (fun _ => False) W (W.alloc (.cells #[.int .i64 0, .int .i64 0, .int .u32 0, .int .u32 0, .int .i64 0, .slice none 0 0, .int .u32 0, .slice none 0 0, .int .i64 0] 29)) := (Keeps.refl _ _).alloc _
        refine hK.out _ _ (hS.trans hk') ⟨fun e9 e11 => (hG.1 e9 e11).keep hk', fun _ _ => ⟨W.heap.size, rfl, hS.size, BlkAt.new W _ _⟩, fun e9 _ e11 => ⟨W.heap.size, rfl, ((hG.1 e9 e11).away2).keep hk'⟩, fun e11 => absurd ((hG.2.2.2 e11).2.1.symm.trans hL) (by decide)⟩
      · intro L f W hG hS hL hdep K hK
        simp only [actOf, List.foldl_cons, List.foldl_nil, Act.put, sA, sZ, sS] at hK ⊢
        rw [if_pos (by rfl)]
        have d9 := hdep ⟨9, .data⟩ (by simp) rfl (by decide)
        have d10 := hdep ⟨10, .data⟩ (by simp) rfl (by decide)
        obtain ⟨B, h6, hlo, hblk⟩ := hG.2.1 d10 hL
        obtain ⟨B', h6', p5, c5, p7, c7, h49, hl5, hn7, ha5, ha7, hf5, hf7⟩ := hG.2.2.1 d9 d10 hL
        rw [h6] at h6'; injection h6' with h6'; injection h6' with h6'; injection h6' with h6'; subst h6'
        refine wp_store_mid 29 (.tmp 6) (.tmp 49) rfl B 0 #[.int .i64 mage, .int .i64 mtype, .int .u32 mid, .int .u32 madv, .int .i64 mseq, .slice p5 mlinks.length c5, .int .u32 mmask, .slice p7 mrouters.length c7, .int .i64 mcost] h6 h49 (hblk.there 0 9 (Nat.le_refl 9)) lsaInfo (lsa_one _ _ _ _ _ _ _ _ _ (slice_one _ _ _) (slice_one _ _ _)) ?_
        have hs9 : Keeps (fun i => i = B) W (W.setCells B 0 [.int .i64 mage, .int .i64 mtype, .int .u32 mid, .int .u32 madv, .int .i64 mseq, .slice p5 mlinks.length c5, .int .u32 mmask, .slice p7 mrouters.length c7, .int .i64 mcost]) := Keeps.setCells (F := fun i => i = B) (.inl rfl) _ _ _ (Keeps.refl _ _)
        refine hK.out _ (hS.trans' hs9 (fun i e => .inr (by omega))) ⟨fun _ e => absurd (show true = false from e) (by decide), fun _ e => absurd (show true = false from e) (by decide), fun _ _ e => absurd (show true = false from e) (by decide), fun _ => ⟨d9, d10, B, p5, c5, p7, c7, h6, hlo, World.rangeAt_setCells_same _ _ _ _ (hblk.there 0 9 (Nat.le_refl 9)), hl5.keepF hs9 (fun h0 i e => ha5 h0 i _ _ e), hn7.keepF hs9 (fun h0 i e => ha7 h0 i _ _ e), hf5, hf7⟩⟩
    · intro f W hG hS
      obtain ⟨-, -, B, p5, c5, p7, c7, h6, hlo, hrB, hl5, hn7, hf5, hf7⟩ := hG.2.2.2 rfl
      simp only [actOf, List.foldl_cons, List.foldl_nil, Act.put, sA, sZ, sS]
      rw [h6]
      generalize f 49 = f49
      have hS' := Lib.hid hS; have hrB' := Lib.hid hrB; have hl5' := Lib.hid hl5; have hn7' := Lib.hid hn7; have hlo' := Lib.hid hlo; have hf5' := Lib.hid hf5; have hf7' := Lib.hid hf7
      have hR3 := Lib.hid (hR2.out.keep hS id); have hk3 := Lib.hid (hk2.out.trans hS)
      clear hG h6 hS hrB hl5 hn7 hlo hf5 hf7 f
      refine NoPanic.normal ?_
      go_wp2_with ((with_reducible refine at_slot 51 ?_); refine wpList_load_mid rfl 29 (.tmp 6) rfl B 0 rfl [.int .i64 mage, .int .i64 mtype, .int .u32 mid, .int .u32 madv, .int .i64 mseq, .slice p5 mlinks.length c5, .int .u32 mmask, .slice p7 mrouters.length c7, .int .i64 mcost] _ hrB'.out Try.underlying29 rfl lsaInfo ?_)
      refine (lsPut_no mage mtype mseq mcost mid madv mmask mlinks mrouters p5 p7 c5 c7 _ hl5' (by omega) (by omega) hcan).mono ?_
      rintro e w4 ⟨rfl, k4⟩
      have hR4 := Lib.hid (hR3.out.keep k4 id); have hk4 := Lib.hid (hk3.out.trans k4)
      clear k4 hR3 hk3 hrB' hl5' hn7'
      go_wp2_with ((with_reducible refine at_store 2 ?_); refine wpList_store_blk rfl 29 (.tmp 2) (.tmp 63) rfl w.heap.size #[.int .i64 0, .int .i64 0, .int .u32 0, .int .u32 0, .int .i64 0, .slice none 0 0, .int .u32 0, .slice none 0 0, .int .i64 0] rfl rfl (BlkAt.there hR4.out 0 9 (Nat.le_refl 9)) lsaInfo (lsa_one _ _ _ _ _ _ _ _ _ (slice_one _ _ _) (slice_one _ _ _)) ?_; intro w9 hr9 hs9)
      have e0 := rangeAt_cell hr9.out 0 _ rfl
      have e1 := rangeAt_cell hr9.out 1 _ rfl
      have e2 := rangeAt_cell hr9.out 2 _ rfl
      have e3 := rangeAt_cell hr9.out 3 _ rfl
      have e4 := rangeAt_cell hr9.out 4 _ rfl
      have e5 := rangeAt_cell hr9.out 5 _ rfl
      have e6 := rangeAt_cell hr9.out 6 _ rfl
      have e7 := rangeAt_cell hr9.out 7 _ rfl
      have e8 := rangeAt_cell hr9.out 8 _ rfl
      refine bodyPost_ret (v := .tuple #[.agg #[.int .i64 0, .int .i64 0, .int .u32 0, .int .u32 0, .int .i64 0, .slice none 0 0, .int .u32 0, .slice none 0 0, .int .i64 0], .int .i64 3]) (by simp [results, Try.results105, go_sem, e0, e1, e2, e3, e4, e5, e6, e7, e8]) rfl ⟨⟨_, by rw [hg'.out], by rw [hg'.out]; exact LsaF.zero _ _⟩, hk4.out.trans' hs9.out (fun i e => .inr (by omega))⟩
  · rw [if_neg hck] at htl0
    have htl := Lib.hid htl0; clear htl0
    go_upto_region 8 with fail
    clear b6 c16 c17
    refine wp_region_noPanic ?_
    refine wp_region_held_drew (S := (fun W => Keeps (fun _ => False) w2 W)) (by kernel_rfl) (((Keeps.refl (fun _ => False) _).drew)) (fun hHeld => ?_)
    refine tk 0 rfl ?_
    refine tkL 1 rfl (yieldsIf_load_cell (by rfl) 3 (.tmp 40) rfl w1.heap.size 0 rfl _ (fun _ s => (hH.out.keep s id).cell 0 (.int .i64 age) rfl) (fun w s => load_int w _ _ _ s)) ?_
    refine tk 2 rfl ?_
    refine tkL 3 rfl (yieldsIf_load_mid (by rfl) 25 (.tmp 42) rfl w1.heap.size 1 rfl [.int .i64 type, .int .u32 lid, .int .u32 adv] _ (fun _ s => key_range (hH.out.keep s id)) Try.underlying25 rfl keyInfo) ?_
    refine tk 4 rfl ?_
    refine tkL 5 rfl (yieldsIf_load_cell (by rfl) 3 (.tmp 44) rfl w1.heap.size 4 rfl _ (fun _ s => (hH.out.keep s id).cell 4 (.int .i64 seq) rfl) (fun w s => load_int w _ _ _ s)) ?_
    refine tk 6 rfl ?_
    refine tk 7 rfl ?_
    refine tk 8 rfl ?_
    refine wpAnyH_slots [49, 6] [9, 10, 11] (fun L f W =>
        (L 9 = true → L 11 = false → LsaF w2 W (f 49) ⟨mage, mtype, mid, madv, mseq, mlinks, mmask, mrouters, mcost⟩) ∧
        (L 10 = true → L 11 = false → ∃ B, f 6 = .pointer (some ⟨B, 0, none⟩) ∧ w2.heap.size ≤ B ∧ BlkAt W B 29 [.int .i64 0, .int .i64 0, .int .u32 0, .int .u32 0, .int .i64 0, .slice none 0 0, .int .u32 0, .slice none 0 0, .int .i64 0]) ∧
        (L 9 = true → L 10 = true → L 11 = false → ∃ B, f 6 = .pointer (some ⟨B, 0, none⟩) ∧ LsaX w2.heap.size W (f 49) ⟨mage, mtype, mid, madv, mseq, mlinks, mmask, mrouters, mcost⟩ B) ∧
        (L 11 = true → L 9 = true ∧ L 10 = true ∧ LsaBox W (f 6) ⟨mage, mtype, mid, madv, mseq, mlinks, mmask, mrouters, mcost⟩ w2.heap.size)) (by kernel_rfl) (by kernel_rfl) (by kernel_rfl) (by kernel_rfl) (Nat.le_of_ble_eq_true (by kernel_rfl)) hHeld
      (fun L f h => ⟨fun e => absurd (h 9 (by decide)) (by rw [e]; decide), fun e => absurd (h 10 (by decide)) (by rw [e]; decide), fun e => absurd (h 9 (by decide)) (by rw [e]; decide), fun e => absurd (h 11 (by decide)) (by rw [e]; decide)⟩) ?_ ?_
    · refine StepsG.cons (d := 49) rfl rfl (by decide) ?_ (StepsG.cons (d := 6) rfl rfl (by decide) ?_ (StepsG.cons0 rfl rfl ?_ StepsG.nil))
      · intro L f W hG hS hL hdep K hK
        simp only [actOf, List.foldl_cons, List.foldl_nil, Act.put, sA, sZ, sS] at hK ⊢
        rw [if_pos (by rfl)]
        go_simp
        refine (lsHear_n age type seq lid adv _ _ _ (x.drop 20) ⟨mage, mtype, mid, madv, mseq, mlinks, mmask, mrouters, mcost⟩ (by simp; omega) (by simp) _ (Lib.hid (htl.out.keep hS)) hm).mono ?_
        rintro e W' ⟨⟨v, rfl, hV⟩, hk'⟩
        go_wp2_with fail
        refine hK.out _ _ (hS.trans hk') ⟨fun _ _ => hV.older hS.size, fun e10 e11 => ?_, fun _ e10 e11 => ?_, fun e11 => absurd ((hG.2.2.2 e11).1.symm.trans hL) (by decide)⟩
        · obtain ⟨B, h1, h2, h3⟩ := hG.2.1 e10 e11
          exact ⟨B, h1, h2, h3.keep hk' id⟩
        · obtain ⟨B, h1, h2, h3⟩ := hG.2.1 e10 e11
          exact ⟨B, h1, hV.away (lt_of_block h3) hS.size⟩
      · intro L f W hG hS hL hdep K hK
        simp only [actOf, List.foldl_cons, List.foldl_nil, Act.put, sA, sZ, sS] at hK ⊢
        rw [if_pos (by rfl)]
        go_simp
        have hk' : Keeps (fun _ => False) W (W.alloc (.cells #[.int .i64 0, .int .i64 0, .int .u32 0, .int .u32 0, .int .i64 0, .slice none 0 0, .int .u32 0, .slice none 0 0, .int .i64 0] 29)) := (Keeps.refl _ _).alloc _
        refine hK.out _ _ (hS.trans hk') ⟨fun e9 e11 => (hG.1 e9 e11).keep hk', fun _ _ => ⟨W.heap.size, rfl, hS.size, BlkAt.new W _ _⟩, fun e9 _ e11 => ⟨W.heap.size, rfl, ((hG.1 e9 e11).away2).keep hk'⟩, fun e11 => absurd ((hG.2.2.2 e11).2.1.symm.trans hL) (by decide)⟩
      · intro L f W hG hS hL hdep K hK
        simp only [actOf, List.foldl_cons, List.foldl_nil, Act.put, sA, sZ, sS] at hK ⊢
        rw [if_pos (by rfl)]
        have d9 := hdep ⟨9, .data⟩ (by simp) rfl (by decide)
        have d10 := hdep ⟨10, .data⟩ (by simp) rfl (by decide)
        obtain ⟨B, h6, hlo, hblk⟩ := hG.2.1 d10 hL
        obtain ⟨B', h6', p5, c5, p7, c7, h49, hl5, hn7, ha5, ha7, hf5, hf7⟩ := hG.2.2.1 d9 d10 hL
        rw [h6] at h6'; injection h6' with h6'; injection h6' with h6'; injection h6' with h6'; subst h6'
        refine wp_store_mid 29 (.tmp 6) (.tmp 49) rfl B 0 #[.int .i64 mage, .int .i64 mtype, .int .u32 mid, .int .u32 madv, .int .i64 mseq, .slice p5 mlinks.length c5, .int .u32 mmask, .slice p7 mrouters.length c7, .int .i64 mcost] h6 h49 (hblk.there 0 9 (Nat.le_refl 9)) lsaInfo (lsa_one _ _ _ _ _ _ _ _ _ (slice_one _ _ _) (slice_one _ _ _)) ?_
        have hs9 : Keeps (fun i => i = B) W (W.setCells B 0 [.int .i64 mage, .int .i64 mtype, .int .u32 mid, .int .u32 madv, .int .i64 mseq, .slice p5 mlinks.length c5, .int .u32 mmask, .slice p7 mrouters.length c7, .int .i64 mcost]) := Keeps.setCells (F := fun i => i = B) (.inl rfl) _ _ _ (Keeps.refl _ _)
        refine hK.out _ (hS.trans' hs9 (fun i e => .inr (by omega))) ⟨fun _ e => absurd (show true = false from e) (by decide), fun _ e => absurd (show true = false from e) (by decide), fun _ _ e => absurd (show true = false from e) (by decide), fun _ => ⟨d9, d10, B, p5, c5, p7, c7, h6, hlo, World.rangeAt_setCells_same _ _ _ _ (hblk.there 0 9 (Nat.le_refl 9)), hl5.keepF hs9 (fun h0 i e => ha5 h0 i _ _ e), hn7.keepF hs9 (fun h0 i e => ha7 h0 i _ _ e), hf5, hf7⟩⟩
    · intro f W hG hS
      obtain ⟨-, -, B, p5, c5, p7, c7, h6, hlo, hrB, hl5, hn7, hf5, hf7⟩ := hG.2.2.2 rfl
      simp only [actOf, List.foldl_cons, List.foldl_nil, Act.put, sA, sZ, sS]
      rw [h6]
      generalize f 49 = f49
      have hS' := Lib.hid hS; have hrB' := Lib.hid hrB; have hl5' := Lib.hid hl5; have hn7' := Lib.hid hn7; have hlo' := Lib.hid hlo; have hf5' := Lib.hid hf5; have hf7' := Lib.hid hf7
      have hR3 := Lib.hid (hR2.out.keep hS id); have hk3 := Lib.hid (hk2.out.trans hS)
      clear hG h6 hS hrB hl5 hn7 hlo hf5 hf7 f
      refine NoPanic.normal ?_
      go_wp2_with ((with_reducible refine at_slot 51 ?_); refine wpList_load_mid rfl 29 (.tmp 6) rfl B 0 rfl [.int .i64 mage, .int .i64 mtype, .int .u32 mid, .int .u32 madv, .int .i64 mseq, .slice p5 mlinks.length c5, .int .u32 mmask, .slice p7 mrouters.length c7, .int .i64 mcost] _ hrB'.out Try.underlying29 rfl lsaInfo ?_)
      refine (lsPut_no mage mtype mseq mcost mid madv mmask mlinks mrouters p5 p7 c5 c7 _ hl5' (by omega) (by omega) hcan).mono ?_
      rintro e w4 ⟨rfl, k4⟩
      have hR4 := Lib.hid (hR3.out.keep k4 id); have hk4 := Lib.hid (hk3.out.trans k4)
      clear k4 hR3 hk3 hrB' hl5' hn7'
      go_wp2_with ((with_reducible refine at_store 2 ?_); refine wpList_store_blk rfl 29 (.tmp 2) (.tmp 63) rfl w.heap.size #[.int .i64 0, .int .i64 0, .int .u32 0, .int .u32 0, .int .i64 0, .slice none 0 0, .int .u32 0, .slice none 0 0, .int .i64 0] rfl rfl (BlkAt.there hR4.out 0 9 (Nat.le_refl 9)) lsaInfo (lsa_one _ _ _ _ _ _ _ _ _ (slice_one _ _ _) (slice_one _ _ _)) ?_; intro w9 hr9 hs9)
      have e0 := rangeAt_cell hr9.out 0 _ rfl
      have e1 := rangeAt_cell hr9.out 1 _ rfl
      have e2 := rangeAt_cell hr9.out 2 _ rfl
      have e3 := rangeAt_cell hr9.out 3 _ rfl
      have e4 := rangeAt_cell hr9.out 4 _ rfl
      have e5 := rangeAt_cell hr9.out 5 _ rfl
      have e6 := rangeAt_cell hr9.out 6 _ rfl
      have e7 := rangeAt_cell hr9.out 7 _ rfl
      have e8 := rangeAt_cell hr9.out 8 _ rfl
      refine bodyPost_ret (v := .tuple #[.agg #[.int .i64 0, .int .i64 0, .int .u32 0, .int .u32 0, .int .i64 0, .slice none 0 0, .int .u32 0, .slice none 0 0, .int .i64 0], .int .i64 3]) (by simp [results, Try.results105, go_sem, e0, e1, e2, e3, e4, e5, e6, e7, e8]) rfl ⟨⟨_, by rw [hg'.out], by rw [hg'.out]; exact LsaF.zero _ _⟩, hk4.out.trans' hs9.out (fun i e => .inr (by omega))⟩
end Go.Proofs.Ytdaongflpllfhaa
