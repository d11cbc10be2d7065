/- lsa.Get, walked. -/
import Derived.Test.YtiogeepffdpafaaLM
namespace Go.Proofs.Ytiogeepffdpafaa
open Go.RowKit

theorem lsHear_any (age type seq : Int) (lid adv : Nat) (p : Option Addr) (c : Nat) (x : List UInt8) (hx : x.length ≤ 1000000) (w : World) (h : Hid (BytesAt w (.slice p x.length c) x)) :
    Calls Try.prog 63 #[.agg #[.int .i64 age, .int .i64 type, .int .u32 lid, .int .u32 adv, .int .i64 seq, .slice none 0 0, .int .u32 0, .slice none 0 0, .int .i64 0], .slice p x.length c] w fun e w' => (∃ v, e = .returned v ∧ LsaF w w' v (hearD age type lid adv seq x)) ∧ Keeps (fun _ => False) w w' := by
  by_cases hn : x.length < 4
  · exact lsHear_short age type seq lid adv p c x hx w h hn
  · by_cases t1 : type = 1
    · subst t1; exact lsHear_one age seq lid adv p c x hx w h (by omega)
    · by_cases t2 : type = 2
      · subst t2; exact lsHear_two age seq lid adv p c x hx w h (by omega)
      · by_cases t3 : type = 3
        · subst t3; exact lsHear_three age seq lid adv p c x hx w h (by omega)
        · exact lsHear_else age type seq lid adv p c x hx w h (by omega) t1 t2 t3
theorem lsHear_n (age type seq : Int) (lid adv : Nat) (p : Option Addr) (n c : Nat) (x : List UInt8) (m : LsaD) (hx : x.length ≤ 1000000) (hn : x.length = n) (w : World) (h : Hid (BytesAt w (.slice p n c) x)) (hm : Hid (hearD age type lid adv seq x = m)) :
    Calls Try.prog 63 #[.agg #[.int .i64 age, .int .i64 type, .int .u32 lid, .int .u32 adv, .int .i64 seq, .slice none 0 0, .int .u32 0, .slice none 0 0, .int .i64 0], .slice p n c] w fun e w' => (∃ v, e = .returned v ∧ LsaF w w' v m) ∧ Keeps (fun _ => False) w w' := by
  subst hn; rw [← hm.out]; exact lsHear_any age type seq lid adv p c x hx w h
theorem conv_any' {W : World} {v : Value} {x : List UInt8} (h : BytesAt W v x) : (convert 29 9 v).run Try.prog W = .ok (.string ⟨x.toArray⟩) W := by
  cases x with
  | cons a x => exact conv_bytes h (by simp)
  | nil =>
    obtain ⟨p, c, rfl, hp, -, -⟩ := h
    cases p with
    | none => obtain rfl := hp rfl; exact conv_nil W
    | some a => exact run_convert_bytes_back W 29 9 5 a c [] Try.underlying29 Try.underlying5 Try.underlying9 (fun j hj => by simp at hj)
theorem bytesEqual_r (a b : Value) (x y : List UInt8) (r : Bool) (w : World) (ha : Hid (BytesAt w a x)) (hb : Hid (BytesAt w b y)) (hr : Hid ((x == y) = r)) :
    Calls Try.prog 64 #[a, b] w fun e w' => e = .returned (.bool r) ∧ w = w' := by
  have h1 := conv_any' ha.out
  have h2 := conv_any' hb.out
  have hr' := hr.out
  clear ha hb hr
  rw [← hr']
  clear hr'
  go_enter Try.func64, Try.ntmps64
  go_wp2
  go_ret
  exact ⟨rfl, rfl⟩
def zeroL : LsaD := ⟨0, 0, 0, 0, 0, [], 0, [], 0⟩
def hearH (h : HeadD) (x : List UInt8) : LsaD := hearD h.age h.type h.id h.adv h.seq x
def getL (x : List UInt8) : LsaD × Int :=
  if x.length < 20 then (zeroL, 4)
  else if rightF (x.drop 2) = false ∨ x.getD 16 0 = 255 ∨ x.getD 17 0 = 255 then (zeroL, 8)
  else if (headOf x).len ≠ (x.length : Int) then (zeroL, 3)
  else if canB (hearH (headOf x) (x.drop 20)) = true ∧ putB (hearH (headOf x) (x.drop 20)) = x then (hearH (headOf x) (x.drop 20), 0)
  else (zeroL, 3)
theorem sub_lt4 (x : List UInt8) (i n : Nat) (hn : n ≤ 4) : beVal (sub x i n) < 4294967296 := by
  have h1 := beVal_lt (sub x i n)
  have h2 : (sub x i n).length ≤ 4 := by unfold sub; simp; omega
  have h3 : 256 ^ (sub x i n).length ≤ 256 ^ 4 := Nat.pow_le_pow_right (by omega) h2
  omega
theorem readN_small (x : List UInt8) (j : Nat) : Small (readN x j) := by
  intro n hn
  unfold readN at hn
  obtain ⟨i, _, rfl⟩ := List.mem_map.1 hn
  exact sub_lt4 x _ 4 (by omega)
theorem readL_ok (x : List UInt8) (j : Nat) : ∀ l ∈ readL x j, l.ok := by
  intro l hl
  unfold readL at hl
  obtain ⟨i, _, rfl⟩ := List.mem_map.1 hl
  have h1 := sub_lt4 x (12 * i) 4 (by omega)
  have h2 := sub_lt4 x (12 * i + 4) 4 (by omega)
  have h3 := sub_lt4 x (12 * i + 10) 2 (by omega)
  have h4 := (x.getD (12 * i + 8) 0).toNat_lt
  refine ⟨h1, h2, ?_, ?_⟩
  · show _ ≤ (((x.getD (12 * i + 8) 0).toNat : Nat) : Int) ∧ (((x.getD (12 * i + 8) 0).toNat : Nat) : Int) ≤ _
    omega
  · show _ ≤ ((beVal (sub x (12 * i + 10) 2) : Nat) : Int) ∧ ((beVal (sub x (12 * i + 10) 2) : Nat) : Int) ≤ _
    omega
theorem no_small : Small [] := fun _ h => by cases h
theorem no_ok : ∀ l ∈ ([] : List LinkD), l.ok := fun _ h => by cases h
theorem hearD_parts (age type seq : Int) (lid adv : Nat) (x : List UInt8) : (hearD age type lid adv seq x).id = lid ∧ (hearD age type lid adv seq x).adv = adv ∧ (hearD age type lid adv seq x).mask < 4294967296 ∧ Small (hearD age type lid adv seq x).routers ∧ ∀ l ∈ (hearD age type lid adv seq x).links, l.ok := by
  unfold hearD
  have s := sub_lt4 x 0 4 (by omega)
  split
  · exact ⟨rfl, rfl, (by show (0 : Nat) < 4294967296; omega), no_small, no_ok⟩
  · split
    · exact ⟨rfl, rfl, (by show (0 : Nat) < 4294967296; omega), no_small, readL_ok _ _⟩
    · split
      · exact ⟨rfl, rfl, s, readN_small _ _, no_ok⟩
      · split
        · exact ⟨rfl, rfl, s, no_small, no_ok⟩
        · exact ⟨rfl, rfl, (by show (0 : Nat) < 4294967296; omega), no_small, no_ok⟩
/-- what Get answers -/
def GetPost (x : List UInt8) (w : World) (e : Ending) (w' : World) : Prop :=
  (∃ v, e = .returned (.tuple #[v, .int .i64 (getL x).2]) ∧ LsaV w' v (getL x).1) ∧ Keeps (fun _ => False) w w'
theorem LsaV.zero (w : World) : LsaV w (.agg #[.int .i64 0, .int .i64 0, .int .u32 0, .int .u32 0, .int .i64 0, .slice none 0 0, .int .u32 0, .slice none 0 0, .int .i64 0]) zeroL := ⟨none, 0, none, 0, rfl, LinksAt.nil _, NumsAt.nil _⟩

set_option maxRecDepth 100000 in
set_option maxHeartbeats 4000000 in
theorem lsGet_short (p : Option Addr) (c : Nat) (x : List UInt8) (hx : x.length < 20) (w : World) :
    Calls Try.prog 17 #[.slice p x.length c] w (GetPost x w) := by
  have hg : getL x = (zeroL, 4) := by unfold getL; rw [if_pos hx]
  have hR : Hid (BlkAt (w.alloc (.cells #[.int .i64 0, .int .i64 0, .int .u32 0, .int .u32 0, .int .i64 0, .slice none 0 0, .int .u32 0, .slice none 0 0, .int .i64 0] 36)) w.heap.size 36 [.int .i64 0, .int .i64 0, .int .u32 0, .int .u32 0, .int .i64 0, .slice none 0 0, .int .u32 0, .slice none 0 0, .int .i64 0]) := Lib.hid (BlkAt.new w _ _)
  have hk : Hid (Keeps (fun _ => False) w (w.alloc (.cells #[.int .i64 0, .int .i64 0, .int .u32 0, .int .u32 0, .int .i64 0, .slice none 0 0, .int .u32 0, .slice none 0 0, .int .i64 0] 36))) := Lib.hid ((Keeps.refl _ _).alloc _)
  have hg' := Lib.hid hg; clear hg
  go_enter Try.func17, Try.ntmps17
  go_upto_region 1 with fail
  generalize w.alloc (.cells #[.int .i64 0, .int .i64 0, .int .u32 0, .int .u32 0, .int .i64 0, .slice none 0 0, .int .u32 0, .slice none 0 0, .int .i64 0] 36) = w0 at hR hk ⊢
  go_wp2_with fail
  refine (lsHead_no p x.length c hx _).mono ?_
  rintro e w1 ⟨rfl, k1⟩
  have hR1 := Lib.hid (hR.out.keep k1 id)
  have hk1 := Lib.hid (hk.out.trans k1)
  clear k1 hR hk
  have hR2 := Lib.hid (hR1.out.alloc (.cells #[.int .i64 0, .int .i64 0, .int .u32 0, .int .u32 0, .int .i64 0, .int .u16 0, .int .i64 0] 45))
  have hk2 := Lib.hid (hk1.out.alloc (.cells #[.int .i64 0, .int .i64 0, .int .u32 0, .int .u32 0, .int .i64 0, .int .u16 0, .int .i64 0] 45))
  clear hR1 hk1
  go_wp2_with (first | ((with_reducible refine at_store 4 ?_); refine wpList_store_new rfl 45 (.tmp 4) (.tmp 11) rfl _ #[.int .i64 0, .int .i64 0, .int .u32 0, .int .u32 0, .int .i64 0, .int .u16 0, .int .i64 0] rfl rfl headInfo rfl (head_one _ _ _ _ _ _ _) ?_) | ((with_reducible refine at_store 2 ?_); refine wpList_store_blk rfl 36 (.tmp 2) (.tmp 15) rfl w.heap.size #[.int .i64 0, .int .i64 0, .int .u32 0, .int .u32 0, .int .i64 0, .slice none 0 0, .int .u32 0, .slice none 0 0, .int .i64 0] rfl rfl (BlkAt.there hR2.out 0 9 (Nat.le_refl 9)) lsaInfo (lsa_one _ _ _ _ _ _ _ _ _ (slice_one _ _ _) (slice_one _ _ _)) ?_; intro w9 hr9 hs9))
  have e0 := rangeAt_cell hr9.out 0 _ rfl
  have e1 := rangeAt_cell hr9.out 1 _ rfl
  have e2 := rangeAt_cell hr9.out 2 _ rfl
  have e3 := rangeAt_cell hr9.out 3 _ rfl
  have e4 := rangeAt_cell hr9.out 4 _ rfl
  have e5 := rangeAt_cell hr9.out 5 _ rfl
  have e6 := rangeAt_cell hr9.out 6 _ rfl
  have e7 := rangeAt_cell hr9.out 7 _ rfl
  have e8 := rangeAt_cell hr9.out 8 _ rfl
  refine bodyPost_ret (v := .tuple #[.agg #[.int .i64 0, .int .i64 0, .int .u32 0, .int .u32 0, .int .i64 0, .slice none 0 0, .int .u32 0, .slice none 0 0, .int .i64 0], .int .i64 4]) (by simp [results, Try.results17, go_sem, e0, e1, e2, e3, e4, e5, e6, e7, e8]) rfl ⟨⟨_, by rw [hg'.out], by rw [hg'.out]; exact LsaV.zero _⟩, hk2.out.trans' hs9.out (fun i e => .inr (by omega))⟩
end Go.Proofs.Ytiogeepffdpafaa
