/- lsa.hear, walked. -/
import Derived.Test.YtdaongflpllfhaaLS05
set_option linter.unusedVariables false
set_option linter.unusedSimpArgs false
namespace Go.Proofs.Ytdaongflpllfhaa
open Go.RowKit

def hearD (age type : Int) (lid adv : Nat) (seq : Int) (x : List UInt8) : LsaD :=
  if x.length < 4 then ⟨age, type, lid, adv, seq, [], 0, [], 0⟩
  else if type = 1 then ⟨age, type, lid, adv, seq, readL (x.drop 4) ((x.length - 4) / 12), 0, [], 0⟩
  else if type = 2 then ⟨age, type, lid, adv, seq, [], beVal (sub x 0 4), readN (x.drop 4) ((x.length - 4) / 4), 0⟩
  else if type = 3 then ⟨age, type, lid, adv, seq, [], beVal (sub x 0 4), [], (beVal (x.drop 4) % 4294967296 : Nat)⟩
  else ⟨age, type, lid, adv, seq, [], 0, [], 0⟩
/-- an Lsa as a value, its lists in memory -/
def LsaV (w : World) (v : Value) (m : LsaD) : Prop :=
  ∃ p5 c5 p7 c7, v = .agg #[.int .i64 m.age, .int .i64 m.type, .int .u32 m.id, .int .u32 m.adv, .int .i64 m.seq, .slice p5 m.links.length c5, .int .u32 m.mask, .slice p7 m.routers.length c7, .int .i64 m.cost] ∧ LinksAt w (.slice p5 m.links.length c5) m.links ∧ NumsAt w (.slice p7 m.routers.length c7) m.routers
/-- .. in blocks that are new since w0 -/
def LsaF (w0 w : World) (v : Value) (m : LsaD) : Prop :=
  ∃ p5 c5 p7 c7, v = .agg #[.int .i64 m.age, .int .i64 m.type, .int .u32 m.id, .int .u32 m.adv, .int .i64 m.seq, .slice p5 m.links.length c5, .int .u32 m.mask, .slice p7 m.routers.length c7, .int .i64 m.cost] ∧ LinksAt w (.slice p5 m.links.length c5) m.links ∧ NumsAt w (.slice p7 m.routers.length c7) m.routers ∧ (∀ i n c, (Value.slice p5 n c).ownBlock = some i → w0.heap.size ≤ i) ∧ (∀ i n c, (Value.slice p7 n c).ownBlock = some i → w0.heap.size ≤ i)
theorem LsaF.mk {w0 w : World} {age type seq cost : Int} {lid adv mask : Nat} {links : List LinkD} {routers : List Nat} {n5 n7 : Nat} {p5 p7 : Option Addr} {c5 c7 : Nat} (h5 : links.length = n5) (h7 : routers.length = n7) (hl : LinksAt w (.slice p5 n5 c5) links) (hr : NumsAt w (.slice p7 n7 c7) routers)
    (hf5 : ∀ i n c, (Value.slice p5 n c).ownBlock = some i → w0.heap.size ≤ i) (hf7 : ∀ i n c, (Value.slice p7 n c).ownBlock = some i → w0.heap.size ≤ i) :
    LsaF w0 w (.agg #[.int .i64 age, .int .i64 type, .int .u32 lid, .int .u32 adv, .int .i64 seq, .slice p5 n5 c5, .int .u32 mask, .slice p7 n7 c7, .int .i64 cost]) ⟨age, type, lid, adv, seq, links, mask, routers, cost⟩ := by
  subst h5; subst h7; exact ⟨_, _, _, _, rfl, hl, hr, hf5, hf7⟩
theorem drew_fresh {w : World} {v : Value} (h : ∀ i, v.ownBlock = some i → w.drew.heap.size ≤ i) : ∀ i, v.ownBlock = some i → w.heap.size ≤ i := h
theorem fresh_nil (w0 : World) : ∀ i n c, (Value.slice none n c).ownBlock = some i → w0.heap.size ≤ i := fun i n c e => by simp [Value.ownBlock] at e
theorem fresh_of {w0 w1 : World} {p : Option Addr} {n c k : Nat} (h : ∀ i, (Value.slice p n c).ownBlock = some i → w1.heap.size ≤ i) (hk : w0.heap.size + k < w1.heap.size) : ∀ i n c, (Value.slice p n c).ownBlock = some i → w0.heap.size ≤ i := fun i n' c' e => by
  have := h i (by cases p with | none => simp [Value.ownBlock] at e | some a => exact e)
  omega
theorem LsaV.mk {w : World} {age type seq cost : Int} {lid adv mask : Nat} {links : List LinkD} {routers : List Nat} {n5 n7 : Nat} {p5 p7 : Option Addr} {c5 c7 : Nat} (h5 : links.length = n5) (h7 : routers.length = n7) (hl : LinksAt w (.slice p5 n5 c5) links) (hr : NumsAt w (.slice p7 n7 c7) routers) :
    LsaV w (.agg #[.int .i64 age, .int .i64 type, .int .u32 lid, .int .u32 adv, .int .i64 seq, .slice p5 n5 c5, .int .u32 mask, .slice p7 n7 c7, .int .i64 cost]) ⟨age, type, lid, adv, seq, links, mask, routers, cost⟩ := by
  subst h5; subst h7; exact ⟨_, _, _, _, rfl, hl, hr⟩
theorem lsa_one (a b c d x : Int) (s : Value) (m : Int) (r : Value) (k : Int) (hs : s.oneCell' = true) (hr : r.oneCell' = true) : (#[.int .i64 a, .int .i64 b, .int .u32 c, .int .u32 d, .int .i64 x, s, .int .u32 m, r, .int .i64 k] : Array Value).all (·.oneCell') = true := by simp; exact ⟨rfl, rfl, rfl, rfl, rfl, hs, rfl, hr, rfl⟩

set_option maxRecDepth 100000 in
set_option maxHeartbeats 4000000 in
theorem lsHear_short (age type seq : Int) (lid adv : Nat) (p : Option Addr) (c : Nat) (x : List UInt8) (hx : x.length ≤ 1000000) (w : World) (h : Hid (BytesAt w (.slice p x.length c) x)) (hn : x.length < 4) :
    Calls Try.prog 117 #[.agg #[.int .i64 age, .int .i64 type, .int .u32 lid, .int .u32 adv, .int .i64 seq, .slice none 0 0, .int .u32 0, .slice none 0 0, .int .i64 0], .slice p x.length c] w fun e w' => (∃ v, e = .returned v ∧ LsaF w w' v (hearD age type lid adv seq x)) ∧ Keeps (fun _ => False) w w' := by
  obtain ⟨M, hM⟩ : ∃ M, hearD age type lid adv seq x = M := ⟨_, rfl⟩
  rw [hM]
  unfold hearD at hM
  rw [if_pos hn] at hM
  obtain ⟨p', c', e', -, hc, hb⟩ := h.out
  injection e' with e1 e2 e3; subst e1; subst e3
  obtain ⟨cs, hcs⟩ : ∃ cs : List Value, cs = [.int .i64 age, .int .i64 type, .int .u32 lid, .int .u32 adv, .int .i64 seq, .slice none 0 0, .int .u32 0, .slice none 0 0, .int .i64 0] := ⟨_, rfl⟩
  obtain ⟨zs, hzs⟩ : ∃ zs : List Value, zs = [.int .i64 0, .int .i64 0, .int .u32 0, .int .u32 0, .int .i64 0, .slice none 0 0, .int .u32 0, .slice none 0 0, .int .i64 0] := ⟨_, rfl⟩
  have hwz : Hid (Keeps (fun _ => False) w ((w.alloc (.cells #[.int .i64 age, .int .i64 type, .int .u32 lid, .int .u32 adv, .int .i64 seq, .slice none 0 0, .int .u32 0, .slice none 0 0, .int .i64 0] 29)).alloc (.cells #[.int .i64 0, .int .i64 0, .int .u32 0, .int .u32 0, .int .i64 0, .slice none 0 0, .int .u32 0, .slice none 0 0, .int .i64 0] 29))) := Lib.hid (((Keeps.refl _ _).alloc _).alloc _)
  have hBB : Hid (BlkAt ((w.alloc (.cells #[.int .i64 age, .int .i64 type, .int .u32 lid, .int .u32 adv, .int .i64 seq, .slice none 0 0, .int .u32 0, .slice none 0 0, .int .i64 0] 29)).alloc (.cells #[.int .i64 0, .int .i64 0, .int .u32 0, .int .u32 0, .int .i64 0, .slice none 0 0, .int .u32 0, .slice none 0 0, .int .i64 0] 29)) w.heap.size 29 cs) := Lib.hid (by rw [hcs]; exact (BlkAt.new w _ _).alloc _)
  have hRR : Hid (BlkAt ((w.alloc (.cells #[.int .i64 age, .int .i64 type, .int .u32 lid, .int .u32 adv, .int .i64 seq, .slice none 0 0, .int .u32 0, .slice none 0 0, .int .i64 0] 29)).alloc (.cells #[.int .i64 0, .int .i64 0, .int .u32 0, .int .u32 0, .int .i64 0, .slice none 0 0, .int .u32 0, .slice none 0 0, .int .i64 0] 29)) (w.heap.size + 1) 29 zs) := Lib.hid (by
    rw [hzs]
    have := BlkAt.new (w.alloc (.cells #[.int .i64 age, .int .i64 type, .int .u32 lid, .int .u32 adv, .int .i64 seq, .slice none 0 0, .int .u32 0, .slice none 0 0, .int .i64 0] 29)) 29 [.int .i64 0, .int .i64 0, .int .u32 0, .int .u32 0, .int .i64 0, .slice none 0 0, .int .u32 0, .slice none 0 0, .int .i64 0]
    rw [show (w.alloc (.cells #[.int .i64 age, .int .i64 type, .int .u32 lid, .int .u32 adv, .int .i64 seq, .slice none 0 0, .int .u32 0, .slice none 0 0, .int .i64 0] 29)).heap.size = w.heap.size + 1 by simp] at this
    exact this)
  have hsz0 : Hid (w.heap.size + 1 < ((w.alloc (.cells #[.int .i64 age, .int .i64 type, .int .u32 lid, .int .u32 adv, .int .i64 seq, .slice none 0 0, .int .u32 0, .slice none 0 0, .int .i64 0] 29)).alloc (.cells #[.int .i64 0, .int .i64 0, .int .u32 0, .int .u32 0, .int .i64 0, .slice none 0 0, .int .u32 0, .slice none 0 0, .int .i64 0] 29)).heap.size) := Lib.hid (by simp)
  have hcs' := Lib.hid hcs; have hzs' := Lib.hid hzs; have hb' := Lib.hid hb; have hM' := Lib.hid hM
  clear hcs hzs hb hM h
  go_enter Try.func117, Try.ntmps117
  go_upto_region 1 with fail
  generalize (w.alloc (.cells #[.int .i64 age, .int .i64 type, .int .u32 lid, .int .u32 adv, .int .i64 seq, .slice none 0 0, .int .u32 0, .slice none 0 0, .int .i64 0] 29)).alloc (.cells #[.int .i64 0, .int .i64 0, .int .u32 0, .int .u32 0, .int .i64 0, .slice none 0 0, .int .u32 0, .slice none 0 0, .int .i64 0] 29) = w0 at hwz hBB hRR hsz0 ⊢
  go_wp2_with (first | ((with_reducible refine at_slot 8 ?_); refine wpList_load_mid rfl 29 (.tmp 2) rfl w.heap.size 0 rfl [.int .i64 age, .int .i64 type, .int .u32 lid, .int .u32 adv, .int .i64 seq, .slice none 0 0, .int .u32 0, .slice none 0 0, .int .i64 0] _ (BlkAt.rng hBB.out hcs'.out) Try.underlying29 rfl lsaInfo ?_) | ((with_reducible refine at_store 4 ?_); refine wpList_store_blk rfl 29 (.tmp 4) (.tmp 8) rfl (w.heap.size + 1) #[.int .i64 age, .int .i64 type, .int .u32 lid, .int .u32 adv, .int .i64 seq, .slice none 0 0, .int .u32 0, .slice none 0 0, .int .i64 0] rfl rfl (BlkAt.there hRR.out 0 9 (by rw [hzs'.out]; exact Nat.le_refl 9)) lsaInfo (lsa_one _ _ _ _ _ _ _ _ _ (slice_one _ _ _) (slice_one _ _ _)) ?_; intro w9 hr9 hs9))
  have e0 := rangeAt_cell hr9.out 0 _ rfl
  have e1 := rangeAt_cell hr9.out 1 _ rfl
  have e2 := rangeAt_cell hr9.out 2 _ rfl
  have e3 := rangeAt_cell hr9.out 3 _ rfl
  have e4 := rangeAt_cell hr9.out 4 _ rfl
  have e5 := rangeAt_cell hr9.out 5 _ rfl
  have e6 := rangeAt_cell hr9.out 6 _ rfl
  have e7 := rangeAt_cell hr9.out 7 _ rfl
  have e8 := rangeAt_cell hr9.out 8 _ rfl
  refine bodyPost_ret (v := .agg #[.int .i64 age, .int .i64 type, .int .u32 lid, .int .u32 adv, .int .i64 seq, .slice none 0 0, .int .u32 0, .slice none 0 0, .int .i64 0]) (by simp [results, Try.results117, go_sem, e0, e1, e2, e3, e4, e5, e6, e7, e8]) rfl ⟨⟨_, rfl, ?_⟩, hwz.out.trans' hs9.out (fun i e => .inr (by omega))⟩
  rw [← hM'.out]
  refine LsaF.mk ?_ ?_ ?_ ?_ ?_ ?_
  · exact rfl
  · exact rfl
  · exact LinksAt.nil _
  · exact NumsAt.nil _
  · exact fresh_nil _
  · exact fresh_nil _
set_option maxRecDepth 100000 in
set_option maxHeartbeats 4000000 in
theorem lsHear_else (age type seq : Int) (lid adv : Nat) (p : Option Addr) (c : Nat) (x : List UInt8) (hx : x.length ≤ 1000000) (w : World) (h : Hid (BytesAt w (.slice p x.length c) x)) (hn : 4 ≤ x.length) (t1 : type ≠ 1) (t2 : type ≠ 2) (t3 : type ≠ 3) :
    Calls Try.prog 117 #[.agg #[.int .i64 age, .int .i64 type, .int .u32 lid, .int .u32 adv, .int .i64 seq, .slice none 0 0, .int .u32 0, .slice none 0 0, .int .i64 0], .slice p x.length c] w fun e w' => (∃ v, e = .returned v ∧ LsaF w w' v (hearD age type lid adv seq x)) ∧ Keeps (fun _ => False) w w' := by
  obtain ⟨M, hM⟩ : ∃ M, hearD age type lid adv seq x = M := ⟨_, rfl⟩
  rw [hM]
  unfold hearD at hM
  rw [if_neg (by omega), if_neg t1, if_neg t2, if_neg t3] at hM
  have d1 : (type == 1) = false := by rw [beq_eq_false_iff_ne]; exact t1
  have d2 : (type == 2) = false := by rw [beq_eq_false_iff_ne]; exact t2
  have d3 : (type == 3) = false := by rw [beq_eq_false_iff_ne]; exact t3
  clear t1 t2 t3
  obtain ⟨p', c', e', -, hc, hb⟩ := h.out
  injection e' with e1 e2 e3; subst e1; subst e3
  obtain ⟨cs, hcs⟩ : ∃ cs : List Value, cs = [.int .i64 age, .int .i64 type, .int .u32 lid, .int .u32 adv, .int .i64 seq, .slice none 0 0, .int .u32 0, .slice none 0 0, .int .i64 0] := ⟨_, rfl⟩
  obtain ⟨zs, hzs⟩ : ∃ zs : List Value, zs = [.int .i64 0, .int .i64 0, .int .u32 0, .int .u32 0, .int .i64 0, .slice none 0 0, .int .u32 0, .slice none 0 0, .int .i64 0] := ⟨_, rfl⟩
  have hwz : Hid (Keeps (fun _ => False) w ((w.alloc (.cells #[.int .i64 age, .int .i64 type, .int .u32 lid, .int .u32 adv, .int .i64 seq, .slice none 0 0, .int .u32 0, .slice none 0 0, .int .i64 0] 29)).alloc (.cells #[.int .i64 0, .int .i64 0, .int .u32 0, .int .u32 0, .int .i64 0, .slice none 0 0, .int .u32 0, .slice none 0 0, .int .i64 0] 29))) := Lib.hid (((Keeps.refl _ _).alloc _).alloc _)
  have hBB : Hid (BlkAt ((w.alloc (.cells #[.int .i64 age, .int .i64 type, .int .u32 lid, .int .u32 adv, .int .i64 seq, .slice none 0 0, .int .u32 0, .slice none 0 0, .int .i64 0] 29)).alloc (.cells #[.int .i64 0, .int .i64 0, .int .u32 0, .int .u32 0, .int .i64 0, .slice none 0 0, .int .u32 0, .slice none 0 0, .int .i64 0] 29)) w.heap.size 29 cs) := Lib.hid (by rw [hcs]; exact (BlkAt.new w _ _).alloc _)
  have hRR : Hid (BlkAt ((w.alloc (.cells #[.int .i64 age, .int .i64 type, .int .u32 lid, .int .u32 adv, .int .i64 seq, .slice none 0 0, .int .u32 0, .slice none 0 0, .int .i64 0] 29)).alloc (.cells #[.int .i64 0, .int .i64 0, .int .u32 0, .int .u32 0, .int .i64 0, .slice none 0 0, .int .u32 0, .slice none 0 0, .int .i64 0] 29)) (w.heap.size + 1) 29 zs) := Lib.hid (by
    rw [hzs]
    have := BlkAt.new (w.alloc (.cells #[.int .i64 age, .int .i64 type, .int .u32 lid, .int .u32 adv, .int .i64 seq, .slice none 0 0, .int .u32 0, .slice none 0 0, .int .i64 0] 29)) 29 [.int .i64 0, .int .i64 0, .int .u32 0, .int .u32 0, .int .i64 0, .slice none 0 0, .int .u32 0, .slice none 0 0, .int .i64 0]
    rw [show (w.alloc (.cells #[.int .i64 age, .int .i64 type, .int .u32 lid, .int .u32 adv, .int .i64 seq, .slice none 0 0, .int .u32 0, .slice none 0 0, .int .i64 0] 29)).heap.size = w.heap.size + 1 by simp] at this
    exact this)
  have hsz0 : Hid (w.heap.size + 1 < ((w.alloc (.cells #[.int .i64 age, .int .i64 type, .int .u32 lid, .int .u32 adv, .int .i64 seq, .slice none 0 0, .int .u32 0, .slice none 0 0, .int .i64 0] 29)).alloc (.cells #[.int .i64 0, .int .i64 0, .int .u32 0, .int .u32 0, .int .i64 0, .slice none 0 0, .int .u32 0, .slice none 0 0, .int .i64 0] 29)).heap.size) := Lib.hid (by simp)
  have hcs' := Lib.hid hcs; have hzs' := Lib.hid hzs; have hb' := Lib.hid hb; have hM' := Lib.hid hM
  clear hcs hzs hb hM h
  go_enter Try.func117, Try.ntmps117
  go_upto_region 1 with fail
  generalize (w.alloc (.cells #[.int .i64 age, .int .i64 type, .int .u32 lid, .int .u32 adv, .int .i64 seq, .slice none 0 0, .int .u32 0, .slice none 0 0, .int .i64 0] 29)).alloc (.cells #[.int .i64 0, .int .i64 0, .int .u32 0, .int .u32 0, .int .i64 0, .slice none 0 0, .int .u32 0, .slice none 0 0, .int .i64 0] 29) = w0 at hwz hBB hRR hsz0 ⊢
  have b1 := hBB.out.cell 1 (.int .i64 type) (by rw [hcs'.out]; rfl)
  go_wp2_with (first | ((with_reducible refine at_slot 39 ?_); refine wpList_load_mid rfl 29 (.tmp 2) rfl w.heap.size 0 rfl [.int .i64 age, .int .i64 type, .int .u32 lid, .int .u32 adv, .int .i64 seq, .slice none 0 0, .int .u32 0, .slice none 0 0, .int .i64 0] _ (BlkAt.rng hBB.out hcs'.out) Try.underlying29 rfl lsaInfo ?_) | ((with_reducible refine at_store 4 ?_); refine wpList_store_blk rfl 29 (.tmp 4) (.tmp 39) rfl (w.heap.size + 1) #[.int .i64 age, .int .i64 type, .int .u32 lid, .int .u32 adv, .int .i64 seq, .slice none 0 0, .int .u32 0, .slice none 0 0, .int .i64 0] rfl rfl (BlkAt.there hRR.out 0 9 (by rw [hzs'.out]; exact Nat.le_refl 9)) lsaInfo (lsa_one _ _ _ _ _ _ _ _ _ (slice_one _ _ _) (slice_one _ _ _)) ?_; intro w9 hr9 hs9))
  have e0 := rangeAt_cell hr9.out 0 _ rfl
  have e1 := rangeAt_cell hr9.out 1 _ rfl
  have e2 := rangeAt_cell hr9.out 2 _ rfl
  have e3 := rangeAt_cell hr9.out 3 _ rfl
  have e4 := rangeAt_cell hr9.out 4 _ rfl
  have e5 := rangeAt_cell hr9.out 5 _ rfl
  have e6 := rangeAt_cell hr9.out 6 _ rfl
  have e7 := rangeAt_cell hr9.out 7 _ rfl
  have e8 := rangeAt_cell hr9.out 8 _ rfl
  refine bodyPost_ret (v := .agg #[.int .i64 age, .int .i64 type, .int .u32 lid, .int .u32 adv, .int .i64 seq, .slice none 0 0, .int .u32 0, .slice none 0 0, .int .i64 0]) (by simp [results, Try.results117, go_sem, e0, e1, e2, e3, e4, e5, e6, e7, e8]) rfl ⟨⟨_, rfl, ?_⟩, hwz.out.trans' hs9.out (fun i e => .inr (by omega))⟩
  rw [← hM'.out]
  refine LsaF.mk ?_ ?_ ?_ ?_ ?_ ?_
  · exact rfl
  · exact rfl
  · exact LinksAt.nil _
  · exact NumsAt.nil _
  · exact fresh_nil _
  · exact fresh_nil _
set_option maxRecDepth 100000 in
set_option maxHeartbeats 4000000 in
theorem lsHear_one (age seq : Int) (lid adv : Nat) (p : Option Addr) (c : Nat) (x : List UInt8) (hx : x.length ≤ 1000000) (w : World) (h : Hid (BytesAt w (.slice p x.length c) x)) (hn : 4 ≤ x.length) :
    Calls Try.prog 117 #[.agg #[.int .i64 age, .int .i64 1, .int .u32 lid, .int .u32 adv, .int .i64 seq, .slice none 0 0, .int .u32 0, .slice none 0 0, .int .i64 0], .slice p x.length c] w fun e w' => (∃ v, e = .returned v ∧ LsaF w w' v (hearD age 1 lid adv seq x)) ∧ Keeps (fun _ => False) w w' := by
  obtain ⟨M, hM⟩ : ∃ M, hearD age 1 lid adv seq x = M := ⟨_, rfl⟩
  rw [hM]
  unfold hearD at hM
  rw [if_neg (by omega), if_pos rfl] at hM
  obtain ⟨p', c', e', -, hc, hb⟩ := h.out
  injection e' with e1 e2 e3; subst e1; subst e3
  obtain ⟨cs, hcs⟩ : ∃ cs : List Value, cs = [.int .i64 age, .int .i64 1, .int .u32 lid, .int .u32 adv, .int .i64 seq, .slice none 0 0, .int .u32 0, .slice none 0 0, .int .i64 0] := ⟨_, rfl⟩
  obtain ⟨zs, hzs⟩ : ∃ zs : List Value, zs = [.int .i64 0, .int .i64 0, .int .u32 0, .int .u32 0, .int .i64 0, .slice none 0 0, .int .u32 0, .slice none 0 0, .int .i64 0] := ⟨_, rfl⟩
  have hwz : Hid (Keeps (fun _ => False) w ((w.alloc (.cells #[.int .i64 age, .int .i64 1, .int .u32 lid, .int .u32 adv, .int .i64 seq, .slice none 0 0, .int .u32 0, .slice none 0 0, .int .i64 0] 29)).alloc (.cells #[.int .i64 0, .int .i64 0, .int .u32 0, .int .u32 0, .int .i64 0, .slice none 0 0, .int .u32 0, .slice none 0 0, .int .i64 0] 29))) := Lib.hid (((Keeps.refl _ _).alloc _).alloc _)
  have hBB : Hid (BlkAt ((w.alloc (.cells #[.int .i64 age, .int .i64 1, .int .u32 lid, .int .u32 adv, .int .i64 seq, .slice none 0 0, .int .u32 0, .slice none 0 0, .int .i64 0] 29)).alloc (.cells #[.int .i64 0, .int .i64 0, .int .u32 0, .int .u32 0, .int .i64 0, .slice none 0 0, .int .u32 0, .slice none 0 0, .int .i64 0] 29)) w.heap.size 29 cs) := Lib.hid (by rw [hcs]; exact (BlkAt.new w _ _).alloc _)
  have hRR : Hid (BlkAt ((w.alloc (.cells #[.int .i64 age, .int .i64 1, .int .u32 lid, .int .u32 adv, .int .i64 seq, .slice none 0 0, .int .u32 0, .slice none 0 0, .int .i64 0] 29)).alloc (.cells #[.int .i64 0, .int .i64 0, .int .u32 0, .int .u32 0, .int .i64 0, .slice none 0 0, .int .u32 0, .slice none 0 0, .int .i64 0] 29)) (w.heap.size + 1) 29 zs) := Lib.hid (by
    rw [hzs]
    have := BlkAt.new (w.alloc (.cells #[.int .i64 age, .int .i64 1, .int .u32 lid, .int .u32 adv, .int .i64 seq, .slice none 0 0, .int .u32 0, .slice none 0 0, .int .i64 0] 29)) 29 [.int .i64 0, .int .i64 0, .int .u32 0, .int .u32 0, .int .i64 0, .slice none 0 0, .int .u32 0, .slice none 0 0, .int .i64 0]
    rw [show (w.alloc (.cells #[.int .i64 age, .int .i64 1, .int .u32 lid, .int .u32 adv, .int .i64 seq, .slice none 0 0, .int .u32 0, .slice none 0 0, .int .i64 0] 29)).heap.size = w.heap.size + 1 by simp] at this
    exact this)
  have hsz0 : Hid (w.heap.size + 1 < ((w.alloc (.cells #[.int .i64 age, .int .i64 1, .int .u32 lid, .int .u32 adv, .int .i64 seq, .slice none 0 0, .int .u32 0, .slice none 0 0, .int .i64 0] 29)).alloc (.cells #[.int .i64 0, .int .i64 0, .int .u32 0, .int .u32 0, .int .i64 0, .slice none 0 0, .int .u32 0, .slice none 0 0, .int .i64 0] 29)).heap.size) := Lib.hid (by simp)
  have hcs' := Lib.hid hcs; have hzs' := Lib.hid hzs; have hb' := Lib.hid hb; have hM' := Lib.hid hM
  clear hcs hzs hb hM h
  go_enter Try.func117, Try.ntmps117
  go_upto_region 1 with fail
  generalize (w.alloc (.cells #[.int .i64 age, .int .i64 1, .int .u32 lid, .int .u32 adv, .int .i64 seq, .slice none 0 0, .int .u32 0, .slice none 0 0, .int .i64 0] 29)).alloc (.cells #[.int .i64 0, .int .i64 0, .int .u32 0, .int .u32 0, .int .i64 0, .slice none 0 0, .int .u32 0, .slice none 0 0, .int .i64 0] 29) = w0 at hwz hBB hRR hsz0 ⊢
  have b1 := hBB.out.cell 1 (.int .i64 1) (by rw [hcs'.out]; rfl)
  obtain ⟨g, o, rfl, hr⟩ := hb'.out (by omega)
  have hr0 := hwz.out.rangeAt hr id
  have ht := bytes_tail hr0 hc 4 hn
  have hd4 : (x.drop 4).length = x.length - 4 := by simp
  obtain ⟨tp, htp⟩ : ∃ tp, tp = (if c = 4 then some (⟨g, o, none⟩ : Addr) else some ⟨g, o + 4, none⟩) := ⟨_, rfl⟩
  rw [← htp, ← hd4] at ht
  have hcall := lsReadLinks_any tp (c - 4) (x.drop 4) (by rw [hd4]; omega) w0 (Lib.hid ht)
  rw [hd4] at hcall
  have hcall' := Lib.hid hcall
  have hc4 : 4 ≤ c := by omega
  clear hr hr0 ht hd4 hcall
  obtain ⟨v5, hv5⟩ : ∃ v, v = Value.slice tp (x.length - 4) (c - 4) := ⟨_, rfl⟩
  by_cases hck : c = 4
  · have hx4 : x.length = 4 := by omega
    rw [if_pos hck] at htp
    subst htp
    have hq0 : (x.length - 4) / 12 = 0 := by omega
    rw [hq0, show x.length - 4 = 0 by omega, show c - 4 = 0 by omega] at hcall'
    rw [hq0] at hM'
    have hM2 := hM'
    clear hM'
    go_wp2_with fail
    refine hcall'.out.mono ?_
    rintro e w2 ⟨q, d, rfl, hO2, k2⟩
    have hL2 := Lib.hid hO2.at; have hne5 := Lib.hid hO2.2.1; have hk2 := Lib.hid (hwz.out.trans k2)
    have hB2 := Lib.hid (hBB.out.keep k2 id); have hR2 := Lib.hid (hRR.out.keep k2 id)
    have b5 := hB2.out.cell 5 (.slice none 0 0) (by rw [hcs'.out]; rfl)
    have f5 := hB2.out.frozen 5
    have hB3 : Hid (BlkAt (w2.setCell ⟨w.heap.size, 5, none⟩ (.slice q 0 d)) w.heap.size 29 [.int .i64 age, .int .i64 1, .int .u32 lid, .int .u32 adv, .int .i64 seq, .slice q 0 d, .int .u32 0, .slice none 0 0, .int .i64 0]) := Lib.hid (by have := hB2.out.set 5 (.slice q 0 d); rw [hcs'.out] at this; exact this)
    have hs3 : Hid (Keeps (fun i => i = w.heap.size) w2 (w2.setCell ⟨w.heap.size, 5, none⟩ (.slice q 0 d))) := Lib.hid ((Keeps.refl (fun i => i = w.heap.size) _).setCell (.inl rfl) _)
    have hR3 := Lib.hid (hR2.out.keep hs3.out (by omega))
    have hk3 := Lib.hid (hk2.out.trans' hs3.out (fun i e => .inr (by omega)))
    have hL3 := Lib.hid (hL2.out.keepF hs3.out (fun _ i e => by have := hne5.out i e; have := hsz0.out; omega))
    clear k2 hO2 hL2 hk2 hB2 hR2
    go_upto_region 10 with fail
    clear b5 f5
    generalize w2.setCell ⟨w.heap.size, 5, none⟩ (.slice q 0 d) = w3 at hB3 hs3 hR3 hk3 hL3 ⊢
    go_wp2_with (first | ((with_reducible refine at_slot 39 ?_); refine wpList_load_mid rfl 29 (.tmp 2) rfl w.heap.size 0 rfl [.int .i64 age, .int .i64 1, .int .u32 lid, .int .u32 adv, .int .i64 seq, .slice q 0 d, .int .u32 0, .slice none 0 0, .int .i64 0] _ (BlkAt.rng hB3.out rfl) Try.underlying29 rfl lsaInfo ?_) | ((with_reducible refine at_store 4 ?_); refine wpList_store_blk rfl 29 (.tmp 4) (.tmp 39) rfl (w.heap.size + 1) #[.int .i64 age, .int .i64 1, .int .u32 lid, .int .u32 adv, .int .i64 seq, .slice q 0 d, .int .u32 0, .slice none 0 0, .int .i64 0] rfl rfl (BlkAt.there hR3.out 0 9 (by rw [hzs'.out]; exact Nat.le_refl 9)) lsaInfo (lsa_one _ _ _ _ _ _ _ _ _ (slice_one _ _ _) (slice_one _ _ _)) ?_; intro w9 hr9 hs9))
    have e0 := rangeAt_cell hr9.out 0 _ rfl
    have e1 := rangeAt_cell hr9.out 1 _ rfl
    have e2 := rangeAt_cell hr9.out 2 _ rfl
    have e3 := rangeAt_cell hr9.out 3 _ rfl
    have e4 := rangeAt_cell hr9.out 4 _ rfl
    have e5 := rangeAt_cell hr9.out 5 _ rfl
    have e6 := rangeAt_cell hr9.out 6 _ rfl
    have e7 := rangeAt_cell hr9.out 7 _ rfl
    have e8 := rangeAt_cell hr9.out 8 _ rfl
    refine bodyPost_ret (v := .agg #[.int .i64 age, .int .i64 1, .int .u32 lid, .int .u32 adv, .int .i64 seq, .slice q 0 d, .int .u32 0, .slice none 0 0, .int .i64 0]) (by simp [results, Try.results117, go_sem, e0, e1, e2, e3, e4, e5, e6, e7, e8]) rfl ⟨⟨_, rfl, ?_⟩, hk3.out.trans' hs9.out (fun i e => .inr (by omega))⟩
    rw [← hM2.out]
    refine LsaF.mk ?_ ?_ ?_ ?_ ?_ ?_
    · exact (readL_len _ _)
    · exact rfl
    · exact hL3.out.keepF hs9.out (fun _ i e => by have := hne5.out i e; have := hsz0.out; omega)
    · exact NumsAt.nil _
    · exact fresh_of hne5.out hsz0.out
    · exact fresh_nil _
  · rw [if_neg hck] at htp
    subst htp
    go_wp2_with fail
    refine hcall'.out.mono ?_
    rintro e w2 ⟨q, d, rfl, hO2, k2⟩
    have hL2 := Lib.hid hO2.at; have hne5 := Lib.hid hO2.2.1; have hk2 := Lib.hid (hwz.out.trans k2)
    have hB2 := Lib.hid (hBB.out.keep k2 id); have hR2 := Lib.hid (hRR.out.keep k2 id)
    have b5 := hB2.out.cell 5 (.slice none 0 0) (by rw [hcs'.out]; rfl)
    have f5 := hB2.out.frozen 5
    have hB3 : Hid (BlkAt (w2.setCell ⟨w.heap.size, 5, none⟩ (.slice q ((x.length - 4) / 12) d)) w.heap.size 29 [.int .i64 age, .int .i64 1, .int .u32 lid, .int .u32 adv, .int .i64 seq, .slice q ((x.length - 4) / 12) d, .int .u32 0, .slice none 0 0, .int .i64 0]) := Lib.hid (by have := hB2.out.set 5 (.slice q ((x.length - 4) / 12) d); rw [hcs'.out] at this; exact this)
    have hs3 : Hid (Keeps (fun i => i = w.heap.size) w2 (w2.setCell ⟨w.heap.size, 5, none⟩ (.slice q ((x.length - 4) / 12) d))) := Lib.hid ((Keeps.refl (fun i => i = w.heap.size) _).setCell (.inl rfl) _)
    have hR3 := Lib.hid (hR2.out.keep hs3.out (by omega))
    have hk3 := Lib.hid (hk2.out.trans' hs3.out (fun i e => .inr (by omega)))
    have hL3 := Lib.hid (hL2.out.keepF hs3.out (fun _ i e => by have := hne5.out i e; have := hsz0.out; omega))
    clear k2 hO2 hL2 hk2 hB2 hR2
    go_upto_region 10 with fail
    clear b5 f5
    generalize w2.setCell ⟨w.heap.size, 5, none⟩ (.slice q ((x.length - 4) / 12) d) = w3 at hB3 hs3 hR3 hk3 hL3 ⊢
    go_wp2_with (first | ((with_reducible refine at_slot 39 ?_); refine wpList_load_mid rfl 29 (.tmp 2) rfl w.heap.size 0 rfl [.int .i64 age, .int .i64 1, .int .u32 lid, .int .u32 adv, .int .i64 seq, .slice q ((x.length - 4) / 12) d, .int .u32 0, .slice none 0 0, .int .i64 0] _ (BlkAt.rng hB3.out rfl) Try.underlying29 rfl lsaInfo ?_) | ((with_reducible refine at_store 4 ?_); refine wpList_store_blk rfl 29 (.tmp 4) (.tmp 39) rfl (w.heap.size + 1) #[.int .i64 age, .int .i64 1, .int .u32 lid, .int .u32 adv, .int .i64 seq, .slice q ((x.length - 4) / 12) d, .int .u32 0, .slice none 0 0, .int .i64 0] rfl rfl (BlkAt.there hR3.out 0 9 (by rw [hzs'.out]; exact Nat.le_refl 9)) lsaInfo (lsa_one _ _ _ _ _ _ _ _ _ (slice_one _ _ _) (slice_one _ _ _)) ?_; intro w9 hr9 hs9))
    have e0 := rangeAt_cell hr9.out 0 _ rfl
    have e1 := rangeAt_cell hr9.out 1 _ rfl
    have e2 := rangeAt_cell hr9.out 2 _ rfl
    have e3 := rangeAt_cell hr9.out 3 _ rfl
    have e4 := rangeAt_cell hr9.out 4 _ rfl
    have e5 := rangeAt_cell hr9.out 5 _ rfl
    have e6 := rangeAt_cell hr9.out 6 _ rfl
    have e7 := rangeAt_cell hr9.out 7 _ rfl
    have e8 := rangeAt_cell hr9.out 8 _ rfl
    refine bodyPost_ret (v := .agg #[.int .i64 age, .int .i64 1, .int .u32 lid, .int .u32 adv, .int .i64 seq, .slice q ((x.length - 4) / 12) d, .int .u32 0, .slice none 0 0, .int .i64 0]) (by simp [results, Try.results117, go_sem, e0, e1, e2, e3, e4, e5, e6, e7, e8]) rfl ⟨⟨_, rfl, ?_⟩, hk3.out.trans' hs9.out (fun i e => .inr (by omega))⟩
    rw [← hM'.out]
    refine LsaF.mk ?_ ?_ ?_ ?_ ?_ ?_
    · exact (readL_len _ _)
    · exact rfl
    · exact hL3.out.keepF hs9.out (fun _ i e => by have := hne5.out i e; have := hsz0.out; omega)
    · exact NumsAt.nil _
    · exact fresh_of hne5.out hsz0.out
    · exact fresh_nil _
set_option maxRecDepth 100000 in
set_option maxHeartbeats 4000000 in
theorem lsHear_two (age seq : Int) (lid adv : Nat) (p : Option Addr) (c : Nat) (x : List UInt8) (hx : x.length ≤ 1000000) (w : World) (h : Hid (BytesAt w (.slice p x.length c) x)) (hn : 4 ≤ x.length) :
    Calls Try.prog 117 #[.agg #[.int .i64 age, .int .i64 2, .int .u32 lid, .int .u32 adv, .int .i64 seq, .slice none 0 0, .int .u32 0, .slice none 0 0, .int .i64 0], .slice p x.length c] w fun e w' => (∃ v, e = .returned v ∧ LsaF w w' v (hearD age 2 lid adv seq x)) ∧ Keeps (fun _ => False) w w' := by
  obtain ⟨M, hM⟩ : ∃ M, hearD age 2 lid adv seq x = M := ⟨_, rfl⟩
  rw [hM]
  unfold hearD at hM
  rw [if_neg (by omega), if_neg (by decide), if_pos rfl] at hM
  obtain ⟨p', c', e', -, hc, hb⟩ := h.out
  injection e' with e1 e2 e3; subst e1; subst e3
  obtain ⟨cs, hcs⟩ : ∃ cs : List Value, cs = [.int .i64 age, .int .i64 2, .int .u32 lid, .int .u32 adv, .int .i64 seq, .slice none 0 0, .int .u32 0, .slice none 0 0, .int .i64 0] := ⟨_, rfl⟩
  obtain ⟨zs, hzs⟩ : ∃ zs : List Value, zs = [.int .i64 0, .int .i64 0, .int .u32 0, .int .u32 0, .int .i64 0, .slice none 0 0, .int .u32 0, .slice none 0 0, .int .i64 0] := ⟨_, rfl⟩
  have hwz : Hid (Keeps (fun _ => False) w ((w.alloc (.cells #[.int .i64 age, .int .i64 2, .int .u32 lid, .int .u32 adv, .int .i64 seq, .slice none 0 0, .int .u32 0, .slice none 0 0, .int .i64 0] 29)).alloc (.cells #[.int .i64 0, .int .i64 0, .int .u32 0, .int .u32 0, .int .i64 0, .slice none 0 0, .int .u32 0, .slice none 0 0, .int .i64 0] 29))) := Lib.hid (((Keeps.refl _ _).alloc _).alloc _)
  have hBB : Hid (BlkAt ((w.alloc (.cells #[.int .i64 age, .int .i64 2, .int .u32 lid, .int .u32 adv, .int .i64 seq, .slice none 0 0, .int .u32 0, .slice none 0 0, .int .i64 0] 29)).alloc (.cells #[.int .i64 0, .int .i64 0, .int .u32 0, .int .u32 0, .int .i64 0, .slice none 0 0, .int .u32 0, .slice none 0 0, .int .i64 0] 29)) w.heap.size 29 cs) := Lib.hid (by rw [hcs]; exact (BlkAt.new w _ _).alloc _)
  have hRR : Hid (BlkAt ((w.alloc (.cells #[.int .i64 age, .int .i64 2, .int .u32 lid, .int .u32 adv, .int .i64 seq, .slice none 0 0, .int .u32 0, .slice none 0 0, .int .i64 0] 29)).alloc (.cells #[.int .i64 0, .int .i64 0, .int .u32 0, .int .u32 0, .int .i64 0, .slice none 0 0, .int .u32 0, .slice none 0 0, .int .i64 0] 29)) (w.heap.size + 1) 29 zs) := Lib.hid (by
    rw [hzs]
    have := BlkAt.new (w.alloc (.cells #[.int .i64 age, .int .i64 2, .int .u32 lid, .int .u32 adv, .int .i64 seq, .slice none 0 0, .int .u32 0, .slice none 0 0, .int .i64 0] 29)) 29 [.int .i64 0, .int .i64 0, .int .u32 0, .int .u32 0, .int .i64 0, .slice none 0 0, .int .u32 0, .slice none 0 0, .int .i64 0]
    rw [show (w.alloc (.cells #[.int .i64 age, .int .i64 2, .int .u32 lid, .int .u32 adv, .int .i64 seq, .slice none 0 0, .int .u32 0, .slice none 0 0, .int .i64 0] 29)).heap.size = w.heap.size + 1 by simp] at this
    exact this)
  have hsz0 : Hid (w.heap.size + 1 < ((w.alloc (.cells #[.int .i64 age, .int .i64 2, .int .u32 lid, .int .u32 adv, .int .i64 seq, .slice none 0 0, .int .u32 0, .slice none 0 0, .int .i64 0] 29)).alloc (.cells #[.int .i64 0, .int .i64 0, .int .u32 0, .int .u32 0, .int .i64 0, .slice none 0 0, .int .u32 0, .slice none 0 0, .int .i64 0] 29)).heap.size) := Lib.hid (by simp)
  have hcs' := Lib.hid hcs; have hzs' := Lib.hid hzs; have hb' := Lib.hid hb; have hM' := Lib.hid hM
  clear hcs hzs hb hM h
  go_enter Try.func117, Try.ntmps117
  go_upto_region 1 with fail
  generalize (w.alloc (.cells #[.int .i64 age, .int .i64 2, .int .u32 lid, .int .u32 adv, .int .i64 seq, .slice none 0 0, .int .u32 0, .slice none 0 0, .int .i64 0] 29)).alloc (.cells #[.int .i64 0, .int .i64 0, .int .u32 0, .int .u32 0, .int .i64 0, .slice none 0 0, .int .u32 0, .slice none 0 0, .int .i64 0] 29) = w0 at hwz hBB hRR hsz0 ⊢
  have b1 := hBB.out.cell 1 (.int .i64 2) (by rw [hcs'.out]; rfl)
  obtain ⟨g, o, rfl, hr⟩ := hb'.out (by omega)
  have hr0 := hwz.out.drew.rangeAt hr id
  have ht := bytes_tail hr0 hc 4 hn
  have hd4 : (x.drop 4).length = x.length - 4 := by simp
  obtain ⟨tp, htp⟩ : ∃ tp, tp = (if c = 4 then some (⟨g, o, none⟩ : Addr) else some ⟨g, o + 4, none⟩) := ⟨_, rfl⟩
  rw [← htp, ← hd4] at ht
  have hcall := wiReadAll_any tp (c - 4) (x.drop 4) (by rw [hd4]; omega) w0.drew (Lib.hid ht)
  rw [hd4] at hcall
  have hcall' := Lib.hid hcall
  have hc4 : 4 ≤ c := by omega
  have hc4i : (4 : Int) ≤ c := by omega
  have hx4i : (4 : Int) ≤ x.length := by omega
  obtain ⟨mk, hmk⟩ : ∃ n, beVal (sub x 0 4) = n := ⟨_, rfl⟩
  have lmk := sub_lt (x := x) (i := 0) (n := 4) (by omega)
  rw [hmk] at hM' lmk
  have hmk' := Lib.hid hmk
  have s4 : (sub x 0 4).length ≤ 4 := by rw [sub_len (by omega)]; omega
  have k4 := Lib.hid (bytes_sub hr0 hc 0 4 (by omega))
  rw [Nat.add_zero, Nat.sub_zero] at k4
  have hBd := Lib.hid (hBB.out.keep ((Keeps.refl (fun _ => False) _).drew) id)
  have hRd := Lib.hid (hRR.out.keep ((Keeps.refl (fun _ => False) _).drew) id)
  have hwd := Lib.hid hwz.out.drew
  clear hr hr0 ht hd4 hcall hmk
  by_cases hck : c = 4
  · have hx4 : x.length = 4 := by omega
    rw [if_pos hck] at htp
    subst htp
    have hq0 : (x.length - 4) / 4 = 0 := by omega
    rw [hq0, show x.length - 4 = 0 by omega, show c - 4 = 0 by omega] at hcall'
    rw [hq0] at hM'
    subst hck
    go_upto_region 7 with fail
    refine wp_region_noPanic ?_
    refine wp_region_held_drew (S := (fun _ => True)) (by kernel_rfl) (trivial) (fun hHeld => ?_)
    refine tk 0 rfl ?_
    refine tk 1 rfl ?_
    refine tk 3 rfl ?_
    refine tk 4 rfl ?_
    refine stepL 2 rfl (by kernel_rfl) (fun K hK => ?_)
    go_simp
    (refine (wiRead_r _ _ mk s4 _ k4 hmk').mono ?_; rintro e w' ⟨rfl, rfl⟩)
    go_wp2_with fail
    refine hK.out _ _ (trivial) (fun hHeld => ?_)
    clear hK K
    try simp only [Act.put, sA, sZ, sS]
    refine tk 6 rfl ?_
    refine stepL 5 rfl (by kernel_rfl) (fun K hK => ?_)
    go_simp
    (refine hcall'.out.mono ?_; rintro e w2 ⟨q, d, rfl, hO2, k2⟩)
    go_wp2_with fail
    refine hK.out _ _ (trivial) (fun hHeld => ?_)
    clear hK K
    try simp only [Act.put, sA, sZ, sS]
    have hL2 := Lib.hid hO2.at; have hne5 := Lib.hid hO2.2.1; have hne6 := Lib.hid (drew_fresh hO2.2.1); have hk2 := Lib.hid (hwd.out.trans k2)
    have hB2 := Lib.hid (hBd.out.keep k2 id); have hR2 := Lib.hid (hRd.out.keep k2 id)
    have b6 := hB2.out.cell 6 (.int .u32 0) (by rw [hcs'.out]; rfl)
    have f6 := hB2.out.frozen 6
    have b7 := hB2.out.cell 7 (.slice none 0 0) (by rw [hcs'.out]; rfl)
    have f7 := hB2.out.frozen 7
    have hB3 : Hid (BlkAt ((w2.setCell ⟨w.heap.size, 6, none⟩ (.int .u32 mk)).setCell ⟨w.heap.size, 7, none⟩ (.slice q 0 d)) w.heap.size 29 [.int .i64 age, .int .i64 2, .int .u32 lid, .int .u32 adv, .int .i64 seq, .slice none 0 0, .int .u32 mk, .slice q 0 d, .int .i64 0]) := Lib.hid (by have := (hB2.out.set 6 (.int .u32 mk)).set 7 (.slice q 0 d); rw [hcs'.out] at this; exact this)
    have hs3 : Hid (Keeps (fun i => i = w.heap.size) w2 ((w2.setCell ⟨w.heap.size, 6, none⟩ (.int .u32 mk)).setCell ⟨w.heap.size, 7, none⟩ (.slice q 0 d))) := Lib.hid (((Keeps.refl (fun i => i = w.heap.size) _).setCell (p := ⟨w.heap.size, 6, none⟩) (.inl rfl) _).setCell (p := ⟨w.heap.size, 7, none⟩) (.inl rfl) _)
    have hR3 := Lib.hid (hR2.out.keep hs3.out (by omega))
    have hk3 := Lib.hid (hk2.out.trans' hs3.out (fun i e => .inr (by omega)))
    have hL3 := Lib.hid (hL2.out.keepF hs3.out (fun _ i e => by have := hne5.out i e; have := hsz0.out; simp at *; omega))
    clear k2 hO2 hL2 hk2 hB2 hR2
    refine stepL 7 rfl (by kernel_rfl) (fun K hK => ?_)
    go_simp
    refine hK.out _ _ (trivial) (fun hHeld => ?_)
    clear hK K
    try simp only [Act.put, sA, sZ, sS]
    refine tk 8 rfl ?_
    refine stepL 9 rfl (by kernel_rfl) (fun K hK => ?_)
    go_simp
    refine hK.out _ _ (trivial) (fun hHeld => ?_)
    clear hK K
    try simp only [Act.put, sA, sZ, sS]
    refine wpAnyH_done (by kernel_rfl) (NoPanic.normal ?_) _
    clear b6 f6 b7 f7 hHeld
    generalize (w2.setCell ⟨w.heap.size, 6, none⟩ (.int .u32 mk)).setCell ⟨w.heap.size, 7, none⟩ (.slice q 0 d) = w3 at hB3 hs3 hR3 hk3 hL3 ⊢
    go_wp2_with (first | ((with_reducible refine at_slot 39 ?_); refine wpList_load_mid rfl 29 (.tmp 2) rfl w.heap.size 0 rfl [.int .i64 age, .int .i64 2, .int .u32 lid, .int .u32 adv, .int .i64 seq, .slice none 0 0, .int .u32 mk, .slice q 0 d, .int .i64 0] _ (BlkAt.rng hB3.out rfl) Try.underlying29 rfl lsaInfo ?_) | ((with_reducible refine at_store 4 ?_); refine wpList_store_blk rfl 29 (.tmp 4) (.tmp 39) rfl (w.heap.size + 1) #[.int .i64 age, .int .i64 2, .int .u32 lid, .int .u32 adv, .int .i64 seq, .slice none 0 0, .int .u32 mk, .slice q 0 d, .int .i64 0] rfl rfl (BlkAt.there hR3.out 0 9 (by rw [hzs'.out]; exact Nat.le_refl 9)) lsaInfo (lsa_one _ _ _ _ _ _ _ _ _ (slice_one _ _ _) (slice_one _ _ _)) ?_; intro w9 hr9 hs9))
    have e0 := rangeAt_cell hr9.out 0 _ rfl
    have e1 := rangeAt_cell hr9.out 1 _ rfl
    have e2 := rangeAt_cell hr9.out 2 _ rfl
    have e3 := rangeAt_cell hr9.out 3 _ rfl
    have e4 := rangeAt_cell hr9.out 4 _ rfl
    have e5 := rangeAt_cell hr9.out 5 _ rfl
    have e6 := rangeAt_cell hr9.out 6 _ rfl
    have e7 := rangeAt_cell hr9.out 7 _ rfl
    have e8 := rangeAt_cell hr9.out 8 _ rfl
    refine bodyPost_ret (v := .agg #[.int .i64 age, .int .i64 2, .int .u32 lid, .int .u32 adv, .int .i64 seq, .slice none 0 0, .int .u32 mk, .slice q 0 d, .int .i64 0]) (by simp [results, Try.results117, go_sem, e0, e1, e2, e3, e4, e5, e6, e7, e8]) rfl ⟨⟨_, rfl, ?_⟩, hk3.out.trans' hs9.out (fun i e => .inr (by omega))⟩
    rw [← hM'.out]
    refine LsaF.mk ?_ ?_ ?_ ?_ ?_ ?_
    · exact rfl
    · exact (readN_len _ _)
    · exact LinksAt.nil _
    · exact hL3.out.keepF hs9.out (fun _ i e => by have := hne5.out i e; have := hsz0.out; simp at *; omega)
    · exact fresh_nil _
    · exact fresh_of hne6.out hsz0.out
  · rw [if_neg hck] at htp
    subst htp
    go_upto_region 7 with fail
    refine wp_region_noPanic ?_
    refine wp_region_held_drew (S := (fun _ => True)) (by kernel_rfl) (trivial) (fun hHeld => ?_)
    refine tk 0 rfl ?_
    refine tk 1 rfl ?_
    refine tk 3 rfl ?_
    refine tk 4 rfl ?_
    refine stepL 2 rfl (by kernel_rfl) (fun K hK => ?_)
    go_simp
    (refine (wiRead_r _ _ mk s4 _ k4 hmk').mono ?_; rintro e w' ⟨rfl, rfl⟩)
    go_wp2_with fail
    refine hK.out _ _ (trivial) (fun hHeld => ?_)
    clear hK K
    try simp only [Act.put, sA, sZ, sS]
    refine tk 6 rfl ?_
    refine stepL 5 rfl (by kernel_rfl) (fun K hK => ?_)
    go_simp
    (refine hcall'.out.mono ?_; rintro e w2 ⟨q, d, rfl, hO2, k2⟩)
    go_wp2_with fail
    refine hK.out _ _ (trivial) (fun hHeld => ?_)
    clear hK K
    try simp only [Act.put, sA, sZ, sS]
    have hL2 := Lib.hid hO2.at; have hne5 := Lib.hid hO2.2.1; have hne6 := Lib.hid (drew_fresh hO2.2.1); have hk2 := Lib.hid (hwd.out.trans k2)
    have hB2 := Lib.hid (hBd.out.keep k2 id); have hR2 := Lib.hid (hRd.out.keep k2 id)
    have b6 := hB2.out.cell 6 (.int .u32 0) (by rw [hcs'.out]; rfl)
    have f6 := hB2.out.frozen 6
    have b7 := hB2.out.cell 7 (.slice none 0 0) (by rw [hcs'.out]; rfl)
    have f7 := hB2.out.frozen 7
    have hB3 : Hid (BlkAt ((w2.setCell ⟨w.heap.size, 6, none⟩ (.int .u32 mk)).setCell ⟨w.heap.size, 7, none⟩ (.slice q ((x.length - 4) / 4) d)) w.heap.size 29 [.int .i64 age, .int .i64 2, .int .u32 lid, .int .u32 adv, .int .i64 seq, .slice none 0 0, .int .u32 mk, .slice q ((x.length - 4) / 4) d, .int .i64 0]) := Lib.hid (by have := (hB2.out.set 6 (.int .u32 mk)).set 7 (.slice q ((x.length - 4) / 4) d); rw [hcs'.out] at this; exact this)
    have hs3 : Hid (Keeps (fun i => i = w.heap.size) w2 ((w2.setCell ⟨w.heap.size, 6, none⟩ (.int .u32 mk)).setCell ⟨w.heap.size, 7, none⟩ (.slice q ((x.length - 4) / 4) d))) := Lib.hid (((Keeps.refl (fun i => i = w.heap.size) _).setCell (p := ⟨w.heap.size, 6, none⟩) (.inl rfl) _).setCell (p := ⟨w.heap.size, 7, none⟩) (.inl rfl) _)
    have hR3 := Lib.hid (hR2.out.keep hs3.out (by omega))
    have hk3 := Lib.hid (hk2.out.trans' hs3.out (fun i e => .inr (by omega)))
    have hL3 := Lib.hid (hL2.out.keepF hs3.out (fun _ i e => by have := hne5.out i e; have := hsz0.out; simp at *; omega))
    clear k2 hO2 hL2 hk2 hB2 hR2
    refine stepL 7 rfl (by kernel_rfl) (fun K hK => ?_)
    go_simp
    refine hK.out _ _ (trivial) (fun hHeld => ?_)
    clear hK K
    try simp only [Act.put, sA, sZ, sS]
    refine tk 8 rfl ?_
    refine stepL 9 rfl (by kernel_rfl) (fun K hK => ?_)
    go_simp
    refine hK.out _ _ (trivial) (fun hHeld => ?_)
    clear hK K
    try simp only [Act.put, sA, sZ, sS]
    refine wpAnyH_done (by kernel_rfl) (NoPanic.normal ?_) _
    clear b6 f6 b7 f7 hHeld
    generalize (w2.setCell ⟨w.heap.size, 6, none⟩ (.int .u32 mk)).setCell ⟨w.heap.size, 7, none⟩ (.slice q ((x.length - 4) / 4) d) = w3 at hB3 hs3 hR3 hk3 hL3 ⊢
    go_wp2_with (first | ((with_reducible refine at_slot 39 ?_); refine wpList_load_mid rfl 29 (.tmp 2) rfl w.heap.size 0 rfl [.int .i64 age, .int .i64 2, .int .u32 lid, .int .u32 adv, .int .i64 seq, .slice none 0 0, .int .u32 mk, .slice q ((x.length - 4) / 4) d, .int .i64 0] _ (BlkAt.rng hB3.out rfl) Try.underlying29 rfl lsaInfo ?_) | ((with_reducible refine at_store 4 ?_); refine wpList_store_blk rfl 29 (.tmp 4) (.tmp 39) rfl (w.heap.size + 1) #[.int .i64 age, .int .i64 2, .int .u32 lid, .int .u32 adv, .int .i64 seq, .slice none 0 0, .int .u32 mk, .slice q ((x.length - 4) / 4) d, .int .i64 0] rfl rfl (BlkAt.there hR3.out 0 9 (by rw [hzs'.out]; exact Nat.le_refl 9)) lsaInfo (lsa_one _ _ _ _ _ _ _ _ _ (slice_one _ _ _) (slice_one _ _ _)) ?_; intro w9 hr9 hs9))
    have e0 := rangeAt_cell hr9.out 0 _ rfl
    have e1 := rangeAt_cell hr9.out 1 _ rfl
    have e2 := rangeAt_cell hr9.out 2 _ rfl
    have e3 := rangeAt_cell hr9.out 3 _ rfl
    have e4 := rangeAt_cell hr9.out 4 _ rfl
    have e5 := rangeAt_cell hr9.out 5 _ rfl
    have e6 := rangeAt_cell hr9.out 6 _ rfl
    have e7 := rangeAt_cell hr9.out 7 _ rfl
    have e8 := rangeAt_cell hr9.out 8 _ rfl
    refine bodyPost_ret (v := .agg #[.int .i64 age, .int .i64 2, .int .u32 lid, .int .u32 adv, .int .i64 seq, .slice none 0 0, .int .u32 mk, .slice q ((x.length - 4) / 4) d, .int .i64 0]) (by simp [results, Try.results117, go_sem, e0, e1, e2, e3, e4, e5, e6, e7, e8]) rfl ⟨⟨_, rfl, ?_⟩, hk3.out.trans' hs9.out (fun i e => .inr (by omega))⟩
    rw [← hM'.out]
    refine LsaF.mk ?_ ?_ ?_ ?_ ?_ ?_
    · exact rfl
    · exact (readN_len _ _)
    · exact LinksAt.nil _
    · exact hL3.out.keepF hs9.out (fun _ i e => by have := hne5.out i e; have := hsz0.out; simp at *; omega)
    · exact fresh_nil _
    · exact fresh_of hne6.out hsz0.out
set_option maxRecDepth 100000 in
set_option maxHeartbeats 4000000 in
theorem lsHear_three (age seq : Int) (lid adv : Nat) (p : Option Addr) (c : Nat) (x : List UInt8) (hx : x.length ≤ 1000000) (w : World) (h : Hid (BytesAt w (.slice p x.length c) x)) (hn : 4 ≤ x.length) :
    Calls Try.prog 117 #[.agg #[.int .i64 age, .int .i64 3, .int .u32 lid, .int .u32 adv, .int .i64 seq, .slice none 0 0, .int .u32 0, .slice none 0 0, .int .i64 0], .slice p x.length c] w fun e w' => (∃ v, e = .returned v ∧ LsaF w w' v (hearD age 3 lid adv seq x)) ∧ Keeps (fun _ => False) w w' := by
  obtain ⟨M, hM⟩ : ∃ M, hearD age 3 lid adv seq x = M := ⟨_, rfl⟩
  rw [hM]
  unfold hearD at hM
  rw [if_neg (by omega), if_neg (by decide), if_neg (by decide), if_pos rfl] at hM
  obtain ⟨p', c', e', -, hc, hb⟩ := h.out
  injection e' with e1 e2 e3; subst e1; subst e3
  obtain ⟨cs, hcs⟩ : ∃ cs : List Value, cs = [.int .i64 age, .int .i64 3, .int .u32 lid, .int .u32 adv, .int .i64 seq, .slice none 0 0, .int .u32 0, .slice none 0 0, .int .i64 0] := ⟨_, rfl⟩
  obtain ⟨zs, hzs⟩ : ∃ zs : List Value, zs = [.int .i64 0, .int .i64 0, .int .u32 0, .int .u32 0, .int .i64 0, .slice none 0 0, .int .u32 0, .slice none 0 0, .int .i64 0] := ⟨_, rfl⟩
  have hwz : Hid (Keeps (fun _ => False) w ((w.alloc (.cells #[.int .i64 age, .int .i64 3, .int .u32 lid, .int .u32 adv, .int .i64 seq, .slice none 0 0, .int .u32 0, .slice none 0 0, .int .i64 0] 29)).alloc (.cells #[.int .i64 0, .int .i64 0, .int .u32 0, .int .u32 0, .int .i64 0, .slice none 0 0, .int .u32 0, .slice none 0 0, .int .i64 0] 29))) := Lib.hid (((Keeps.refl _ _).alloc _).alloc _)
  have hBB : Hid (BlkAt ((w.alloc (.cells #[.int .i64 age, .int .i64 3, .int .u32 lid, .int .u32 adv, .int .i64 seq, .slice none 0 0, .int .u32 0, .slice none 0 0, .int .i64 0] 29)).alloc (.cells #[.int .i64 0, .int .i64 0, .int .u32 0, .int .u32 0, .int .i64 0, .slice none 0 0, .int .u32 0, .slice none 0 0, .int .i64 0] 29)) w.heap.size 29 cs) := Lib.hid (by rw [hcs]; exact (BlkAt.new w _ _).alloc _)
  have hRR : Hid (BlkAt ((w.alloc (.cells #[.int .i64 age, .int .i64 3, .int .u32 lid, .int .u32 adv, .int .i64 seq, .slice none 0 0, .int .u32 0, .slice none 0 0, .int .i64 0] 29)).alloc (.cells #[.int .i64 0, .int .i64 0, .int .u32 0, .int .u32 0, .int .i64 0, .slice none 0 0, .int .u32 0, .slice none 0 0, .int .i64 0] 29)) (w.heap.size + 1) 29 zs) := Lib.hid (by
    rw [hzs]
    have := BlkAt.new (w.alloc (.cells #[.int .i64 age, .int .i64 3, .int .u32 lid, .int .u32 adv, .int .i64 seq, .slice none 0 0, .int .u32 0, .slice none 0 0, .int .i64 0] 29)) 29 [.int .i64 0, .int .i64 0, .int .u32 0, .int .u32 0, .int .i64 0, .slice none 0 0, .int .u32 0, .slice none 0 0, .int .i64 0]
    rw [show (w.alloc (.cells #[.int .i64 age, .int .i64 3, .int .u32 lid, .int .u32 adv, .int .i64 seq, .slice none 0 0, .int .u32 0, .slice none 0 0, .int .i64 0] 29)).heap.size = w.heap.size + 1 by simp] at this
    exact this)
  have hsz0 : Hid (w.heap.size + 1 < ((w.alloc (.cells #[.int .i64 age, .int .i64 3, .int .u32 lid, .int .u32 adv, .int .i64 seq, .slice none 0 0, .int .u32 0, .slice none 0 0, .int .i64 0] 29)).alloc (.cells #[.int .i64 0, .int .i64 0, .int .u32 0, .int .u32 0, .int .i64 0, .slice none 0 0, .int .u32 0, .slice none 0 0, .int .i64 0] 29)).heap.size) := Lib.hid (by simp)
  have hcs' := Lib.hid hcs; have hzs' := Lib.hid hzs; have hb' := Lib.hid hb; have hM' := Lib.hid hM
  clear hcs hzs hb hM h
  go_enter Try.func117, Try.ntmps117
  go_upto_region 1 with fail
  generalize (w.alloc (.cells #[.int .i64 age, .int .i64 3, .int .u32 lid, .int .u32 adv, .int .i64 seq, .slice none 0 0, .int .u32 0, .slice none 0 0, .int .i64 0] 29)).alloc (.cells #[.int .i64 0, .int .i64 0, .int .u32 0, .int .u32 0, .int .i64 0, .slice none 0 0, .int .u32 0, .slice none 0 0, .int .i64 0] 29) = w0 at hwz hBB hRR hsz0 ⊢
  have b1 := hBB.out.cell 1 (.int .i64 3) (by rw [hcs'.out]; rfl)
  obtain ⟨g, o, rfl, hr⟩ := hb'.out (by omega)
  have hr0 := hwz.out.drew.rangeAt hr id
  have ht := bytes_tail hr0 hc 4 hn
  obtain ⟨tp, htp⟩ : ∃ tp, tp = (if c = 4 then some (⟨g, o, none⟩ : Addr) else some ⟨g, o + 4, none⟩) := ⟨_, rfl⟩
  rw [← htp] at ht
  have hcall := wiRead_mod _ (x.drop 4) (by simp; omega) w0.drew (Lib.hid ht)
  obtain ⟨cn, hcn⟩ : ∃ n, beVal (x.drop 4) % 4294967296 = n := ⟨_, rfl⟩
  have lcn : cn < 4294967296 := by rw [← hcn]; exact Nat.mod_lt _ (by omega)
  rw [hcn] at hcall hM'
  have vcn : IntKind.i64.wrap (cn : Int) = (cn : Int) := IntWalk.i64_in _ (by omega)
  have hcall' := Lib.hid hcall
  have hc4 : 4 ≤ c := by omega
  have hc4i : (4 : Int) ≤ c := by omega
  have hx4i : (4 : Int) ≤ x.length := by omega
  obtain ⟨mk, hmk⟩ : ∃ n, beVal (sub x 0 4) = n := ⟨_, rfl⟩
  have lmk := sub_lt (x := x) (i := 0) (n := 4) (by omega)
  rw [hmk] at hM' lmk
  have hmk' := Lib.hid hmk
  have s4 : (sub x 0 4).length ≤ 4 := by rw [sub_len (by omega)]; omega
  have k4 := Lib.hid (bytes_sub hr0 hc 0 4 (by omega))
  rw [Nat.add_zero, Nat.sub_zero] at k4
  have hBd := Lib.hid (hBB.out.keep ((Keeps.refl (fun _ => False) _).drew) id)
  have hRd := Lib.hid (hRR.out.keep ((Keeps.refl (fun _ => False) _).drew) id)
  have hwd := Lib.hid hwz.out.drew
  clear hr hr0 ht hcall hmk hcn
  by_cases hck : c = 4
  · have hx4 : x.length = 4 := by omega
    rw [if_pos hck] at htp
    subst htp
    rw [show x.length - 4 = 0 by omega, show c - 4 = 0 by omega] at hcall'
    subst hck
    go_upto_region 9 with fail
    refine wp_region_noPanic ?_
    refine wp_region_held_drew (S := (fun _ => True)) (by kernel_rfl) (trivial) (fun hHeld => ?_)
    refine tk 0 rfl ?_
    refine tk 1 rfl ?_
    refine tk 3 rfl ?_
    refine tk 4 rfl ?_
    refine stepL 2 rfl (by kernel_rfl) (fun K hK => ?_)
    go_simp
    (refine (wiRead_r _ _ mk s4 _ k4 hmk').mono ?_; rintro e w' ⟨rfl, rfl⟩)
    go_wp2_with fail
    refine hK.out _ _ (trivial) (fun hHeld => ?_)
    clear hK K
    try simp only [Act.put, sA, sZ, sS]
    refine tk 7 rfl ?_
    refine stepL 5 rfl (by kernel_rfl) (fun K hK => ?_)
    go_simp
    (refine hcall'.out.mono ?_; rintro e w2 ⟨rfl, rfl⟩)
    go_wp2_with fail
    refine hK.out _ _ (trivial) (fun hHeld => ?_)
    clear hK K
    try simp only [Act.put, sA, sZ, sS]
    refine tk 6 rfl ?_
    generalize w0.drew = w2 at hBd hRd hwd ⊢
    have b6 := hBd.out.cell 6 (.int .u32 0) (by rw [hcs'.out]; rfl)
    have f6 := hBd.out.frozen 6
    have b8 := hBd.out.cell 8 (.int .i64 0) (by rw [hcs'.out]; rfl)
    have f8 := hBd.out.frozen 8
    have hB3 : Hid (BlkAt ((w2.setCell ⟨w.heap.size, 6, none⟩ (.int .u32 mk)).setCell ⟨w.heap.size, 8, none⟩ (.int .i64 cn)) w.heap.size 29 [.int .i64 age, .int .i64 3, .int .u32 lid, .int .u32 adv, .int .i64 seq, .slice none 0 0, .int .u32 mk, .slice none 0 0, .int .i64 cn]) := Lib.hid (by have := (hBd.out.set 6 (.int .u32 mk)).set 8 (.int .i64 cn); rw [hcs'.out] at this; exact this)
    have hs3 : Hid (Keeps (fun i => i = w.heap.size) w2 ((w2.setCell ⟨w.heap.size, 6, none⟩ (.int .u32 mk)).setCell ⟨w.heap.size, 8, none⟩ (.int .i64 cn))) := Lib.hid (((Keeps.refl (fun i => i = w.heap.size) _).setCell (p := ⟨w.heap.size, 6, none⟩) (.inl rfl) _).setCell (p := ⟨w.heap.size, 8, none⟩) (.inl rfl) _)
    have hR3 := Lib.hid (hRd.out.keep hs3.out (by omega))
    have hk3 := Lib.hid (hwd.out.trans' hs3.out (fun i e => .inr (by omega)))
    refine stepL 8 rfl (by kernel_rfl) (fun K hK => ?_)
    go_simp
    refine hK.out _ _ (trivial) (fun hHeld => ?_)
    clear hK K
    try simp only [Act.put, sA, sZ, sS]
    refine tk 9 rfl ?_
    refine stepL 10 rfl (by kernel_rfl) (fun K hK => ?_)
    go_simp
    refine hK.out _ _ (trivial) (fun hHeld => ?_)
    clear hK K
    try simp only [Act.put, sA, sZ, sS]
    refine wpAnyH_done (by kernel_rfl) (NoPanic.normal ?_) _
    clear b6 f6 b8 f8 hHeld
    generalize (w2.setCell ⟨w.heap.size, 6, none⟩ (.int .u32 mk)).setCell ⟨w.heap.size, 8, none⟩ (.int .i64 cn) = w3 at hB3 hs3 hR3 hk3 ⊢
    go_wp2_with (first | ((with_reducible refine at_slot 39 ?_); refine wpList_load_mid rfl 29 (.tmp 2) rfl w.heap.size 0 rfl [.int .i64 age, .int .i64 3, .int .u32 lid, .int .u32 adv, .int .i64 seq, .slice none 0 0, .int .u32 mk, .slice none 0 0, .int .i64 cn] _ (BlkAt.rng hB3.out rfl) Try.underlying29 rfl lsaInfo ?_) | ((with_reducible refine at_store 4 ?_); refine wpList_store_blk rfl 29 (.tmp 4) (.tmp 39) rfl (w.heap.size + 1) #[.int .i64 age, .int .i64 3, .int .u32 lid, .int .u32 adv, .int .i64 seq, .slice none 0 0, .int .u32 mk, .slice none 0 0, .int .i64 cn] rfl rfl (BlkAt.there hR3.out 0 9 (by rw [hzs'.out]; exact Nat.le_refl 9)) lsaInfo (lsa_one _ _ _ _ _ _ _ _ _ (slice_one _ _ _) (slice_one _ _ _)) ?_; intro w9 hr9 hs9))
    have e0 := rangeAt_cell hr9.out 0 _ rfl
    have e1 := rangeAt_cell hr9.out 1 _ rfl
    have e2 := rangeAt_cell hr9.out 2 _ rfl
    have e3 := rangeAt_cell hr9.out 3 _ rfl
    have e4 := rangeAt_cell hr9.out 4 _ rfl
    have e5 := rangeAt_cell hr9.out 5 _ rfl
    have e6 := rangeAt_cell hr9.out 6 _ rfl
    have e7 := rangeAt_cell hr9.out 7 _ rfl
    have e8 := rangeAt_cell hr9.out 8 _ rfl
    refine bodyPost_ret (v := .agg #[.int .i64 age, .int .i64 3, .int .u32 lid, .int .u32 adv, .int .i64 seq, .slice none 0 0, .int .u32 mk, .slice none 0 0, .int .i64 cn]) (by simp [results, Try.results117, go_sem, e0, e1, e2, e3, e4, e5, e6, e7, e8]) rfl ⟨⟨_, rfl, ?_⟩, hk3.out.trans' hs9.out (fun i e => .inr (by omega))⟩
    rw [← hM'.out]
    refine LsaF.mk ?_ ?_ ?_ ?_ ?_ ?_
    · exact rfl
    · exact rfl
    · exact LinksAt.nil _
    · exact NumsAt.nil _
    · exact fresh_nil _
    · exact fresh_nil _
  · rw [if_neg hck] at htp
    subst htp
    go_upto_region 9 with fail
    refine wp_region_noPanic ?_
    refine wp_region_held_drew (S := (fun _ => True)) (by kernel_rfl) (trivial) (fun hHeld => ?_)
    refine tk 0 rfl ?_
    refine tk 1 rfl ?_
    refine tk 3 rfl ?_
    refine tk 4 rfl ?_
    refine stepL 2 rfl (by kernel_rfl) (fun K hK => ?_)
    go_simp
    (refine (wiRead_r _ _ mk s4 _ k4 hmk').mono ?_; rintro e w' ⟨rfl, rfl⟩)
    go_wp2_with fail
    refine hK.out _ _ (trivial) (fun hHeld => ?_)
    clear hK K
    try simp only [Act.put, sA, sZ, sS]
    refine tk 7 rfl ?_
    refine stepL 5 rfl (by kernel_rfl) (fun K hK => ?_)
    go_simp
    (refine hcall'.out.mono ?_; rintro e w2 ⟨rfl, rfl⟩)
    go_wp2_with fail
    refine hK.out _ _ (trivial) (fun hHeld => ?_)
    clear hK K
    try simp only [Act.put, sA, sZ, sS]
    refine tk 6 rfl ?_
    generalize w0.drew = w2 at hBd hRd hwd ⊢
    have b6 := hBd.out.cell 6 (.int .u32 0) (by rw [hcs'.out]; rfl)
    have f6 := hBd.out.frozen 6
    have b8 := hBd.out.cell 8 (.int .i64 0) (by rw [hcs'.out]; rfl)
    have f8 := hBd.out.frozen 8
    have hB3 : Hid (BlkAt ((w2.setCell ⟨w.heap.size, 6, none⟩ (.int .u32 mk)).setCell ⟨w.heap.size, 8, none⟩ (.int .i64 cn)) w.heap.size 29 [.int .i64 age, .int .i64 3, .int .u32 lid, .int .u32 adv, .int .i64 seq, .slice none 0 0, .int .u32 mk, .slice none 0 0, .int .i64 cn]) := Lib.hid (by have := (hBd.out.set 6 (.int .u32 mk)).set 8 (.int .i64 cn); rw [hcs'.out] at this; exact this)
    have hs3 : Hid (Keeps (fun i => i = w.heap.size) w2 ((w2.setCell ⟨w.heap.size, 6, none⟩ (.int .u32 mk)).setCell ⟨w.heap.size, 8, none⟩ (.int .i64 cn))) := Lib.hid (((Keeps.refl (fun i => i = w.heap.size) _).setCell (p := ⟨w.heap.size, 6, none⟩) (.inl rfl) _).setCell (p := ⟨w.heap.size, 8, none⟩) (.inl rfl) _)
    have hR3 := Lib.hid (hRd.out.keep hs3.out (by omega))
    have hk3 := Lib.hid (hwd.out.trans' hs3.out (fun i e => .inr (by omega)))
    refine stepL 8 rfl (by kernel_rfl) (fun K hK => ?_)
    go_simp
    refine hK.out _ _ (trivial) (fun hHeld => ?_)
    clear hK K
    try simp only [Act.put, sA, sZ, sS]
    refine tk 9 rfl ?_
    refine stepL 10 rfl (by kernel_rfl) (fun K hK => ?_)
    go_simp
    refine hK.out _ _ (trivial) (fun hHeld => ?_)
    clear hK K
    try simp only [Act.put, sA, sZ, sS]
    refine wpAnyH_done (by kernel_rfl) (NoPanic.normal ?_) _
    clear b6 f6 b8 f8 hHeld
    generalize (w2.setCell ⟨w.heap.size, 6, none⟩ (.int .u32 mk)).setCell ⟨w.heap.size, 8, none⟩ (.int .i64 cn) = w3 at hB3 hs3 hR3 hk3 ⊢
    go_wp2_with (first | ((with_reducible refine at_slot 39 ?_); refine wpList_load_mid rfl 29 (.tmp 2) rfl w.heap.size 0 rfl [.int .i64 age, .int .i64 3, .int .u32 lid, .int .u32 adv, .int .i64 seq, .slice none 0 0, .int .u32 mk, .slice none 0 0, .int .i64 cn] _ (BlkAt.rng hB3.out rfl) Try.underlying29 rfl lsaInfo ?_) | ((with_reducible refine at_store 4 ?_); refine wpList_store_blk rfl 29 (.tmp 4) (.tmp 39) rfl (w.heap.size + 1) #[.int .i64 age, .int .i64 3, .int .u32 lid, .int .u32 adv, .int .i64 seq, .slice none 0 0, .int .u32 mk, .slice none 0 0, .int .i64 cn] rfl rfl (BlkAt.there hR3.out 0 9 (by rw [hzs'.out]; exact Nat.le_refl 9)) lsaInfo (lsa_one _ _ _ _ _ _ _ _ _ (slice_one _ _ _) (slice_one _ _ _)) ?_; intro w9 hr9 hs9))
    have e0 := rangeAt_cell hr9.out 0 _ rfl
    have e1 := rangeAt_cell hr9.out 1 _ rfl
    have e2 := rangeAt_cell hr9.out 2 _ rfl
    have e3 := rangeAt_cell hr9.out 3 _ rfl
    have e4 := rangeAt_cell hr9.out 4 _ rfl
    have e5 := rangeAt_cell hr9.out 5 _ rfl
    have e6 := rangeAt_cell hr9.out 6 _ rfl
    have e7 := rangeAt_cell hr9.out 7 _ rfl
    have e8 := rangeAt_cell hr9.out 8 _ rfl
    refine bodyPost_ret (v := .agg #[.int .i64 age, .int .i64 3, .int .u32 lid, .int .u32 adv, .int .i64 seq, .slice none 0 0, .int .u32 mk, .slice none 0 0, .int .i64 cn]) (by simp [results, Try.results117, go_sem, e0, e1, e2, e3, e4, e5, e6, e7, e8]) rfl ⟨⟨_, rfl, ?_⟩, hk3.out.trans' hs9.out (fun i e => .inr (by omega))⟩
    rw [← hM'.out]
    refine LsaF.mk ?_ ?_ ?_ ?_ ?_ ?_
    · exact rfl
    · exact rfl
    · exact LinksAt.nil _
    · exact NumsAt.nil _
    · exact fresh_nil _
    · exact fresh_nil _
end Go.Proofs.Ytdaongflpllfhaa
