/- plan's order of actions: compare (out of LW, ELA). -/
import Derived.Test.YtmclnamgihphcaaMP09
import Derived.Sort.Grow
import Derived.Shelf.SlSortCmp.WholeK
import Derived.Sort.Statements
import Derived.Shelf.SlGeneric
import Derived.Shelf.SlSortCmp.NoneTotal
import Derived.Ground.SlsfProg
import Derived.Test.YtmclnamgihphcaaProg
import Derived.Test.YtmclnamgihphcaaMP06
import Derived.Shelf.Strings.Builder1
set_option linter.unusedVariables false
set_option linter.unusedSimpArgs false
set_option linter.unusedVariables false
set_option linter.unusedSimpArgs false
namespace Go.Proofs.Ytmclnamgihphcaa
open Go.RowKit Go.Sort

def cmpI (a b : Int) : Int := if a < b then -1 else if a > b then 1 else 0
def cmpH (age1 age2 : Nat) (seq1 seq2 : Int) (sum1 sum2 : Nat) : Int :=
  if seq1 ≠ seq2 then cmpI seq1 seq2 else if sum1 ≠ sum2 then cmpI sum1 sum2 else if age1 = 3600 ∧ age2 ≠ 3600 then 1 else if age2 = 3600 ∧ age1 ≠ 3600 then -1
  else if max age1 age2 - min age1 age2 > 900 then cmpI age2 age1 else 0
set_option maxHeartbeats 1000000 in
theorem nanInt_any (a : Int) (w : World) : Calls Try.prog 34 #[.int .i64 a] w fun e w' => e = .returned (.bool false) ∧ w = w' := by
  have h : (a != a) = false := by simp
  go_enter Try.func34, Try.ntmps34
  go_wp2_with fail
  go_ret
  exact ⟨rfl, rfl⟩
set_option maxHeartbeats 1000000 in
set_option maxHeartbeats 1000000 in
theorem cmpInt_any (a b : Int) (w : World) : Calls Try.prog 17 #[.int .i64 a, .int .i64 b] w fun e w' => e = .returned (.int .i64 (cmpI a b)) ∧ w = w' := by
  unfold cmpI
  by_cases h1 : a < b
  · rw [if_pos h1]
    go_enter Try.func17, Try.ntmps17
    go_wp2_with fail
    refine (nanInt_any _ _).mono ?_
    rintro e w' ⟨rfl, rfl⟩
    go_wp2_with fail
    refine (nanInt_any _ _).mono ?_
    rintro e w' ⟨rfl, rfl⟩
    go_wp2_with fail
    go_ret
    exact ⟨rfl, rfl⟩
  · rw [if_neg h1]
    by_cases h2 : a > b
    · rw [if_pos h2]
      go_enter Try.func17, Try.ntmps17
      go_wp2_with fail
      refine (nanInt_any _ _).mono ?_
      rintro e w' ⟨rfl, rfl⟩
      go_wp2_with fail
      refine (nanInt_any _ _).mono ?_
      rintro e w' ⟨rfl, rfl⟩
      go_wp2_with fail
      go_ret
      exact ⟨rfl, rfl⟩
    · rw [if_neg h2]
      go_enter Try.func17, Try.ntmps17
      go_wp2_with fail
      refine (nanInt_any _ _).mono ?_
      rintro e w' ⟨rfl, rfl⟩
      go_wp2_with fail
      refine (nanInt_any _ _).mono ?_
      rintro e w' ⟨rfl, rfl⟩
      go_wp2_with fail
      go_ret
      exact ⟨rfl, rfl⟩
def orI (a b : Int) : Int := if a ≠ 0 then a else b
set_option maxHeartbeats 1000000 in
theorem orInt_any (g c : Nat) (a b : Int) (z : Int) (w : World) (hz : Hid (orI a b = z)) (h : Hid (w.rangeAt g 0 [.int .i64 a, .int .i64 b])) :
    Calls Try.prog 16 #[.slice (some ⟨g, 0, none⟩) 2 c] w fun e w' => e = .returned (.int .i64 z) ∧ w = w' := by
  have h0 : w.cell? ⟨g, 0, none⟩ = some (.int .i64 a) := h.out 0 _ rfl
  have h1 : w.cell? ⟨g, 1, none⟩ = some (.int .i64 b) := h.out 1 _ rfl
  clear h
  have hA : Hid (a ≠ 0 → a = z) := Lib.hid (fun e => by rw [← hz.out]; unfold orI; rw [if_pos e])
  have hB : Hid (a = 0 → b = z) := Lib.hid (fun e => by rw [← hz.out]; unfold orI; rw [if_neg (fun h => h e)])
  clear hz
  go_enter Try.func16, Try.ntmps16
  go_wp2_with fail
  go_loop [8] (fun iv => ∃ k : Nat, k ≤ 2 ∧ iv = .int .i64 k ∧ (1 ≤ k → a = 0) ∧ (2 ≤ k → b = 0)) (fun iv => 2 - (intOf iv).toNat)
  case atStart => exact ⟨0, by omega, rfl, by omega, by omega⟩
  case round =>
    obtain ⟨k, hk, rfl, ha, hb⟩ := hrel
    have hk3 : k = 0 ∨ k = 1 ∨ k = 2 := by omega
    rcases hk3 with rfl | rfl | rfl
    · by_cases e : a = 0
      · have e1 : (a != 0) = false := by rw [e]; rfl
        have e' := Lib.hid e
        clear e
        go_wp2_with fail
        exact ⟨⟨1, by omega, rfl, fun _ => e'.out, by omega⟩, by simp [intOf]⟩
      · have e1 : (a != 0) = true := by rw [bne_iff_ne]; exact e
        have ez := Lib.hid (hA.out e)
        clear e ha hb
        go_wp2_with fail
        go_ret
        exact ⟨by rw [ez.out]; rfl, rfl⟩
    · have e0 := ha (by omega)
      have ez := Lib.hid (hB.out e0)
      clear e0
      by_cases e : b = 0
      · have e1 : (b != 0) = false := by rw [e]; rfl
        have e' := Lib.hid e
        clear e
        go_wp2_with fail
        exact ⟨⟨2, by omega, rfl, fun _ => ha (by omega), fun _ => e'.out⟩, by simp [intOf]⟩
      · have e1 : (b != 0) = true := by rw [bne_iff_ne]; exact e
        clear e ha hb
        go_wp2_with fail
        go_ret
        exact ⟨by rw [ez.out]; rfl, rfl⟩
    · have e0 := ha (by omega)
      have e1 := hb (by omega)
      have ez := Lib.hid (e1.symm.trans (hB.out e0))
      clear e0 e1 ha hb
      go_wp2_with fail
      go_ret
      exact ⟨by rw [← ez.out]; rfl, rfl⟩


def cmpS (a b : List UInt8) : Int := if Op.bytesLess a b = true then -1 else if Op.bytesLess b a = true then 1 else 0
theorem nanStr_any (a : ByteArray) (w : World) : Calls Try.prog 35 #[.string a] w fun e w' => e = .returned (.bool false) ∧ w = w' := by
  have h : (a.toList == a.toList) = true := by simp
  go_enter Try.func35, Try.ntmps35
  go_wp2_with fail
  go_ret
  exact ⟨rfl, rfl⟩
set_option maxHeartbeats 1000000 in
theorem cmpStr_any (a b : ByteArray) (w : World) : Calls Try.prog 18 #[.string a, .string b] w fun e w' => e = .returned (.int .i64 (cmpS a.data.toList b.data.toList)) ∧ w = w' := by
  unfold cmpS
  have hd : Op.bytesLess a.data.toList b.data.toList = Op.bytesLess a.toList b.toList := by rw [Lib.toList_data, Lib.toList_data]
  cases h1 : Op.bytesLess a.data.toList b.data.toList with
  | true =>
    rw [if_pos rfl]
    have l1 : Op.bytesLess a.toList b.toList = true := hd.symm.trans h1
    clear hd h1
    go_enter Try.func18, Try.ntmps18
    go_wp2_with fail
    refine (nanStr_any _ _).mono ?_
    rintro e w' ⟨rfl, rfl⟩
    go_wp2_with fail
    refine (nanStr_any _ _).mono ?_
    rintro e w' ⟨rfl, rfl⟩
    go_wp2_with fail
    go_ret
    exact ⟨rfl, rfl⟩
  | false =>
    rw [if_neg Bool.false_ne_true]
    have l1 : Op.bytesLess a.toList b.toList = false := hd.symm.trans h1
    by_cases he : a.data.toList = b.data.toList
    · have h2 : ¬ Op.bytesLess b.data.toList a.data.toList = true := by rw [he, bl_irr]; exact Bool.false_ne_true
      rw [if_neg h2]
      have e2 := beq_list he
      clear hd h1 he h2
      go_enter Try.func18, Try.ntmps18
      go_wp2_with fail
      refine (nanStr_any _ _).mono ?_
      rintro e w' ⟨rfl, rfl⟩
      go_wp2_with fail
      refine (nanStr_any _ _).mono ?_
      rintro e w' ⟨rfl, rfl⟩
      go_wp2_with fail
      go_ret
      exact ⟨rfl, rfl⟩
    · have h2 : Op.bytesLess b.data.toList a.data.toList = true := by
        cases h3 : Op.bytesLess b.data.toList a.data.toList with
        | true => rfl
        | false => exact absurd (bl_tri h1 h3) he
      rw [if_pos h2]
      have e2 := bne_list he
      clear hd h1 he h2
      go_enter Try.func18, Try.ntmps18
      go_wp2_with fail
      refine (nanStr_any _ _).mono ?_
      rintro e w' ⟨rfl, rfl⟩
      go_wp2_with fail
      refine (nanStr_any _ _).mono ?_
      rintro e w' ⟨rfl, rfl⟩
      go_wp2_with fail
      go_ret
      exact ⟨rfl, rfl⟩
def cmpA (x y : ActD) : Int := orI (cmpI x.kind y.kind) (cmpS x.name y.name)
theorem ltA (x y : ActD) : Go.Proofs.ltOf cmpA x y = true ↔ x.kind < y.kind ∨ (x.kind = y.kind ∧ Op.bytesLess x.name y.name = true) := by
  unfold Go.Proofs.ltOf cmpA orI cmpI cmpS
  rw [decide_eq_true_iff]
  by_cases h1 : x.kind < y.kind
  · simp [h1]
  · by_cases h2 : x.kind > y.kind
    · have h3 : ¬ x.kind = y.kind := by omega
      simp [h1, h2, h3]
    · have h3 : x.kind = y.kind := by omega
      cases h4 : Op.bytesLess x.name y.name with
      | true => simp [h1, h2, h3]
      | false =>
        cases h5 : Op.bytesLess y.name x.name with
        | true => simp [h1, h2, h3]
        | false => simp [h1, h2, h3]
set_option maxRecDepth 100000 in
set_option maxHeartbeats 4000000 in
theorem plCmp_c (k1 k2 : Int) (N1 N2 : ByteArray) (w : World) : Calls Try.prog 15 #[.agg #[.int .i64 k1, .string N1], .agg #[.int .i64 k2, .string N2]] w fun e w' => e = .returned (.int .i64 (cmpA ⟨k1, N1.data.toList⟩ ⟨k2, N2.data.toList⟩)) ∧ ∃ q os, w' = grow (w.drewN q) os := by
  obtain ⟨wB, hwB⟩ : ∃ W, W = (w.alloc (.cells #[.int .i64 k1, .string N1] 33)).alloc (.cells #[.int .i64 k2, .string N2] 33) := ⟨_, rfl⟩
  have hA : Hid (wB.rangeAt w.heap.size 0 [.int .i64 k1, .string N1]) := Lib.hid (by rw [hwB]; exact ((BlkAt.new w 33 [.int .i64 k1, .string N1]).alloc _).range)
  have hB : Hid (wB.rangeAt (w.heap.size + 1) 0 [.int .i64 k2, .string N2]) := Lib.hid (by
    have h := (BlkAt.new (w.alloc (.cells #[.int .i64 k1, .string N1] 33)) 33 [.int .i64 k2, .string N2]).range
    rw [alloc_size] at h
    rw [hwB]; exact h)
  have hg : Hid (wB = grow w #[.cells #[.int .i64 k1, .string N1] 33, .cells #[.int .i64 k2, .string N2] 33]) := Lib.hid (by rw [hwB, alloc_eq_grow, alloc_eq_grow, grow_grow]; rfl)
  have hwB' := Lib.hid hwB
  clear hwB
  obtain ⟨x, hx⟩ : ∃ x, orI (cmpI k1 k2) (cmpS N1.data.toList N2.data.toList) = x := ⟨_, rfl⟩
  have hx' := Lib.hid hx
  have hxx : Hid (cmpA ⟨k1, N1.data.toList⟩ ⟨k2, N2.data.toList⟩ = x) := Lib.hid hx
  clear hx
  go_enter Try.func15, Try.ntmps15
  go_upto_region 1 with fail
  rw [← hwB'.out]
  refine wp_region_noPanic ?_
  refine wp_region_held_drew (S := (fun W => Keeps (fun _ => False) wB W ∧ ∃ q os, W = grow (w.drewN q) os)) (by kernel_rfl) (⟨(Keeps.refl (fun _ => False) _).drew, 1, _, by rw [hg.out]; rfl⟩) (fun hHeld => ?_)
  refine tk 0 rfl ?_
  refine tkL 1 rfl (yieldsIf_load_cell (by rfl) 3 (.tmp 5) rfl w.heap.size 0 rfl _ (fun _ s => (s.1.rangeAt hA.out id) 0 (.int .i64 k1) rfl) (fun w s => load_int w _ _ _ s)) ?_
  refine tk 2 rfl ?_
  refine tkL 3 rfl (yieldsIf_load_cell (by rfl) 3 (.tmp 7) rfl (w.heap.size + 1) 0 rfl _ (fun _ s => (s.1.rangeAt hB.out id) 0 (.int .i64 k2) rfl) (fun w s => load_int w _ _ _ s)) ?_
  refine tk 5 rfl ?_
  refine tkL 6 rfl (yieldsIf_load_cell (by rfl) 9 (.tmp 10) rfl w.heap.size 1 rfl _ (fun _ s => (s.1.rangeAt hA.out id) 1 (.string N1) rfl) (fun w s => load_str w _ _ _ s)) ?_
  refine tk 7 rfl ?_
  refine tkL 8 rfl (yieldsIf_load_cell (by rfl) 9 (.tmp 12) rfl (w.heap.size + 1) 1 rfl _ (fun _ s => (s.1.rangeAt hB.out id) 1 (.string N2) rfl) (fun w s => load_str w _ _ _ s)) ?_
  refine stepL 4 rfl (by kernel_rfl) (fun K hK => ?_)
  go_simp
  (refine (cmpInt_any _ _ _).mono ?_; rintro e w' ⟨rfl, rfl⟩)
  go_wp2_with fail
  refine hK.out _ _ (hHeld) (fun hHeld => ?_)
  clear hK K
  try simp only [Act.put, sA, sZ, sS]
  refine stepL 9 rfl (by kernel_rfl) (fun K hK => ?_)
  go_simp
  (refine (cmpStr_any _ _ _).mono ?_; rintro e w' ⟨rfl, rfl⟩)
  go_wp2_with fail
  refine hK.out _ _ (hHeld) (fun hHeld => ?_)
  clear hK K
  try simp only [Act.put, sA, sZ, sS]
  refine stepL 10 rfl (by kernel_rfl) (fun K hK => ?_)
  go_simp
  refine hK.out _ _ ((⟨hHeld.1.alloc _, 1, _, by rw [hg.out, alloc_eq_grow, grow_grow]; rfl⟩)) (fun hHeld => ?_)
  clear hK K
  try simp only [Act.put, sA, sZ, sS]
  refine stepL 11 rfl (by kernel_rfl) (fun K hK => ?_)
  go_simp
  (refine (orInt_any _ _ _ _ x _ hx' (Lib.hid (Keeps.rangeAt ((Keeps.refl (fun _ => False) _).drew) (new_rangeb wB _ _) id))).mono ?_; rintro e w' ⟨rfl, rfl⟩)
  go_wp2_with fail
  refine hK.out _ _ (hHeld) (fun hHeld => ?_)
  clear hK K
  try simp only [Act.put, sA, sZ, sS]
  refine tk 12 rfl ?_
  refine wpAnyH_done (by kernel_rfl) (NoPanic.normal ?_) _
  have hh := Lib.hid hHeld
  clear hHeld
  go_wp2_with fail
  go_ret
  exact ⟨by rw [hxx.out]; rfl, hh.out.2⟩
end Go.Proofs.Ytmclnamgihphcaa
/- slices.SortFunc at actions, laid in plain words by lay-plain.mjs: numbers of seat Ytmclnamgihphcaa only. -/
namespace Go.Proofs.Ytmclnamgihphcaa
open Go.Shelf
def Try.sortAct_ren : Go.Shelf.Ren := ⟨fun | 6 => 14 | 15 => 33 | 14 => 32 | 28 => 57 | 29 => 58 | 20 => 49 | 21 => 50 | 22 => 51 | 23 => 52 | 24 => 53 | 25 => 54 | 26 => 55 | 27 => 56 | 46 => 70 | 47 => 71 | 48 => 72 | 49 => 73 | 50 => 74 | 57 => 81 | n => n, fun | 22 => 24 | 24 => 33 | 25 => 49 | 3 => 3 | 39 => 78 | 0 => 0 | 53 => 107 | 55 => 109 | 4 => 4 | 46 => 100 | 45 => 99 | 50 => 104 | 5 => 5 | 9 => 9 | 66 => 125 | 70 => 129 | 76 => 134 | 77 => 135 | n => n, fun | n => n⟩
theorem Try.sortAct : Go.Proofs.SlLaysF0.n6 Try.prog Try.sortAct_ren := {
  mixed := by kernel_rfl
  f6 := ⟨Try.f14.name, by decide, Try.func14.trans (congrArg some (by kernel_rfl))⟩
  f14 := ⟨Try.f32.name, by decide, Try.func32.trans (congrArg some (by kernel_rfl))⟩
  f15 := Try.func33.trans (congrArg some (by kernel_rfl))
  f20 := ⟨Try.f49.name, by decide, Try.func49.trans (congrArg some (by kernel_rfl))⟩
  f21 := ⟨Try.f50.name, by decide, Try.func50.trans (congrArg some (by kernel_rfl))⟩
  f22 := ⟨Try.f51.name, by decide, Try.func51.trans (congrArg some (by kernel_rfl))⟩
  f23 := ⟨Try.f52.name, by decide, Try.func52.trans (congrArg some (by kernel_rfl))⟩
  f24 := ⟨Try.f53.name, by decide, Try.func53.trans (congrArg some (by kernel_rfl))⟩
  f25 := ⟨Try.f54.name, by decide, Try.func54.trans (congrArg some (by kernel_rfl))⟩
  f26 := ⟨Try.f55.name, by decide, Try.func55.trans (congrArg some (by kernel_rfl))⟩
  f27 := ⟨Try.f56.name, by decide, Try.func56.trans (congrArg some (by kernel_rfl))⟩
  f28 := Try.func57.trans (congrArg some (by kernel_rfl))
  f29 := Try.func58.trans (congrArg some (by kernel_rfl))
  f46 := ⟨Try.f70.name, by decide, Try.func70.trans (congrArg some (by kernel_rfl))⟩
  f47 := Try.func71.trans (congrArg some (by kernel_rfl))
  f48 := Try.func72.trans (congrArg some (by kernel_rfl))
  f49 := ⟨Try.f73.name, by decide, Try.func73.trans (congrArg some (by kernel_rfl))⟩
  f50 := ⟨Try.f74.name, by decide, Try.func74.trans (congrArg some (by kernel_rfl))⟩
  f57 := ⟨Try.f81.name, by decide, Try.func81.trans (congrArg some (by kernel_rfl))⟩
  t0 := Try.underlying0
  a0 := Try.isAgg0
  z0 := Try.sizeOf0
  v0 := Try.zeroValue0
  t3 := Try.underlying3
  a3 := Try.isAgg3
  z3 := Try.sizeOf3
  v3 := Try.zeroValue3
  t4 := Try.underlying4
  a4 := Try.isAgg4
  z4 := Try.sizeOf4
  v4 := Try.zeroValue4
  t5 := Try.underlying5
  a5 := Try.isAgg5
  z5 := Try.sizeOf5
  v5 := Try.zeroValue5
  t9 := Try.underlying9
  a9 := Try.isAgg9
  z9 := Try.sizeOf9
  v9 := Try.zeroValue9
  t22 := Try.underlying24
  a22 := Try.isAgg24
  z22 := Try.sizeOf24
  v22 := Try.zeroValue24
  t25 := Try.underlying49
  a25 := Try.isAgg49
  z25 := Try.sizeOf49
  v25 := Try.zeroValue49
  t39 := Try.underlying78
  a39 := Try.isAgg78
  z39 := Try.sizeOf78
  v39 := Try.zeroValue78
  t45 := Try.underlying99
  a45 := Try.isAgg99
  z45 := Try.sizeOf99
  v45 := Try.zeroValue99
  t46 := Try.underlying100
  a46 := Try.isAgg100
  z46 := Try.sizeOf100
  v46 := Try.zeroValue100
  t50 := Try.underlying104
  a50 := Try.isAgg104
  z50 := Try.sizeOf104
  v50 := Try.zeroValue104
  t53 := Try.underlying107
  a53 := Try.isAgg107
  z53 := Try.sizeOf107
  v53 := Try.zeroValue107
  t55 := Try.underlying109
  a55 := Try.isAgg109
  z55 := Try.sizeOf109
  v55 := Try.zeroValue109
  t66 := Try.underlying125
  a66 := Try.isAgg125
  z66 := Try.sizeOf125
  v66 := Try.zeroValue125
  t70 := Try.underlying129
  a70 := Try.isAgg129
  z70 := Try.sizeOf129
  v70 := Try.zeroValue129
  t76 := Try.underlying134
  a76 := Try.isAgg134
  z76 := Try.sizeOf134
  v76 := Try.zeroValue134
  t77 := Try.underlying135
  a77 := Try.isAgg135
  z77 := Try.sizeOf135
  v77 := Try.zeroValue135 }
end Go.Proofs.Ytmclnamgihphcaa
/- slices.SortFunc at actions of the call's own: they are sorted. -/
set_option linter.unusedVariables false
set_option linter.unusedSimpArgs false
namespace Go.Proofs.Ytmclnamgihphcaa
open Go.RowKit Go.Sort Go.Shelf

instance : Inhabited ActD := ⟨⟨0, []⟩⟩
theorem swoA : SWO (ltOf cmpA) where
  irrefl x := by
    rw [Bool.eq_false_iff]
    intro h
    rw [ltA] at h
    rcases h with h | ⟨-, h⟩
    · omega
    · rw [bl_irr] at h; cases h
  trans x y z h1 h2 := by
    rw [ltA] at *
    rcases h1 with h1 | ⟨e1, h1⟩
    · rcases h2 with h2 | ⟨e2, h2⟩
      · left; omega
      · left; omega
    · rcases h2 with h2 | ⟨e2, h2⟩
      · left; omega
      · right; exact ⟨e1.trans e2, bl_trans h1 h2⟩
  ntrans x y z h1 h2 := by
    rw [Bool.eq_false_iff] at *
    intro h
    rw [ne_eq, ltA] at h1 h2
    rw [ltA] at h
    have k1 : ¬ x.kind < y.kind := fun e => h1 (.inl e)
    have k2 : ¬ y.kind < z.kind := fun e => h2 (.inl e)
    rcases h with h | ⟨e, h⟩
    · omega
    · have e1 : x.kind = y.kind := by omega
      have e2 : y.kind = z.kind := by omega
      have n1 : Op.bytesLess x.name y.name = false := Bool.eq_false_iff.2 (fun e => h1 (.inr ⟨e1, e⟩))
      have n2 : Op.bytesLess y.name z.name = false := Bool.eq_false_iff.2 (fun e => h2 (.inr ⟨e2, e⟩))
      cases h3 : Op.bytesLess y.name x.name with
      | true =>
        have := bl_trans h3 h
        rw [n2] at this; cases this
      | false =>
        have := bl_tri n1 h3
        rw [← this] at n2
        rw [n2] at h; cases h
theorem totA (x y : ActD) (h1 : ltOf cmpA x y = false) (h2 : ltOf cmpA y x = false) : x = y := by
  rw [Bool.eq_false_iff, ne_eq, ltA] at h1 h2
  have e1 : x.kind = y.kind := by
    have k1 : ¬ x.kind < y.kind := fun e => h1 (.inl e)
    have k2 : ¬ y.kind < x.kind := fun e => h2 (.inl e)
    omega
  have e2 : x.name = y.name := bl_tri (Bool.eq_false_iff.2 (fun e => h1 (.inr ⟨e1, e⟩))) (Bool.eq_false_iff.2 (fun e => h2 (.inr ⟨e1.symm, e⟩)))
  cases x; cases y; simp_all
def sortA (L : List ActD) : List ActD := L.mergeSort fun x y => !(ltOf cmpA) y x
theorem sortA_perm (L : List ActD) : (sortA L).Perm L := List.mergeSort_perm _ _
theorem sortA_len (L : List ActD) : (sortA L).length = L.length := (sortA_perm L).length_eq
theorem flat_rows (L : List ActD) : flatK aVals 2 L.toArray = (rowCells aVals L).toArray := by
  apply Array.ext_getElem?
  intro t
  by_cases ht : t < L.length * 2
  · have h1 : (flatK aVals 2 L.toArray)[t]? = some ((aVals L.toArray[t / 2]!)[t % 2]!) := by
      have := get_flatK aVals 2 L.toArray t (by simpa using ht)
      have h2 : t < (flatK aVals 2 L.toArray).size := by simpa using ht
      rw [getElem!_pos _ t h2] at this
      rw [Array.getElem?_eq_getElem h2, this]
    rw [h1]
    have hi : t / 2 < L.length := by omega
    have hx : L[t / 2]? = some L[t / 2] := List.getElem?_eq_getElem hi
    have h3 := rowCells_get aVals_len L (t / 2) _ hx (t % 2) (by omega)
    rw [show t / 2 * 2 + t % 2 = t by omega] at h3
    rw [List.getElem?_toArray, h3]
    have h4 : L.toArray[t / 2]! = L[t / 2] := by rw [getElem!_pos L.toArray (t / 2) (by simpa using hi)]; simp
    rw [h4]
    have h5 : t % 2 < (aVals L[t / 2]).length := by rw [aVals_len]; omega
    rw [List.getElem?_eq_getElem h5, getElem!_pos (aVals L[t / 2]) (t % 2) h5]
  · rw [Array.getElem?_eq_none (by simpa using ht), Array.getElem?_eq_none (by rw [List.size_toArray, rowCells_len aVals_len]; omega)]
theorem isAggA (w : World) : (isAgg (Try.sortAct_ren.t 24)).run Try.prog w = .ok true w := Try.isAgg33 w
theorem sizeA (w : World) : (Go.sizeOf (Try.sortAct_ren.t 24)).run Try.prog w = .ok 2 w := Try.sizeOf33 w
set_option maxRecDepth 100000 in
set_option maxHeartbeats 4000000 in
theorem plSort_any (v : Value) (L : List ActD) (w0 w : World) (hO : Hid (OwnR 33 2 aVals w0 w v L)) (hl : L.length ≤ 1000000) :
    Calls Try.prog 14 #[v, .func (.func 15) #[] #[]] w fun e w' => e = .returned (.tuple #[]) ∧ OwnR 33 2 aVals w0 w' v (sortA L) ∧ Keeps (fun i => v.ownBlock = some i) w w' := by
  obtain ⟨⟨hlen, hv⟩, hb, hs⟩ := hO.out
  rcases hv with ⟨rfl, h0⟩ | ⟨g, cap, cur, rfl, -, hg, hc1, hc2, hc3, hc4⟩
  · obtain rfl : L = [] := List.eq_nil_of_length_eq_zero h0
    refine (AnyF.slices_SortFunc_none Try.sortAct none 0 (.func (.func 15) #[] #[]) w).mono ?_
    rintro e w' ⟨rfl, rfl⟩
    exact ⟨rfl, by rw [show sortA [] = [] by simp [sortA]]; exact hO.out, Keeps.refl _ _⟩
  · have hat := hO.out.at aVals_len
    have hgl : g < w.heap.size := lt_of_block hg
    have eg : ∀ args w, (callFunc 15 args).run Try.prog w = .ok (.enter 15 args) w := enters_of Try.func15 (by kernel_rfl) rfl
    have hH : HoldsK aVals 2 w g 0 L.toArray := by
      intro j hj
      rw [flat_rows] at hj ⊢
      have hj2 : j < (rowCells aVals L).length := by simpa using hj
      rw [Nat.zero_add]
      constructor
      · have h1 : cur[j]? = some (rowCells aVals L)[j] := by
          have h2 : (cur.toList.take (L.length * 2))[j]? = (rowCells aVals L)[j]? := by rw [hc4]
          rw [List.getElem?_take_of_lt (by rw [rowCells_len aVals_len] at hj2; exact hj2), List.getElem?_eq_getElem hj2] at h2
          simpa using h2
        rw [cell_of_row _ _ _ _ _ _ hg, h1]
        have h3 : (rowCells aVals L).toArray[j]! = (rowCells aVals L)[j] := by rw [getElem!_pos (rowCells aVals L).toArray j hj]; simp
        rw [h3]; rfl
      · have hB : BlkAt w g 33 cur.toList := by unfold BlkAt; simpa using hg
        exact hB.frozen j
    have hcmp : CmpLays Try.prog 15 #[] aVals 2 cmpA g 0 L.toArray.size w := fun m os dk _ x y => plCmp_c x.kind y.kind ⟨x.name.toArray⟩ ⟨y.name.toArray⟩ _
    have hcon := AnyQ.slices_SortFunc_total Try.sortAct 2 isAggA sizeA aVals aVals_len aVals_one cmpA swoA 15 #[] g 0 cap L.toArray w eg hcmp hH hgl (by simp; omega) totA
    rw [List.size_toArray] at hcon
    refine hcon.mono ?_
    rintro e w' ⟨rfl, n, os, rfl⟩
    have hD : (List.mergeSort L.toArray.toList fun x y => !(ltOf cmpA) y x) = sortA L := rfl
    rw [hD]
    generalize hS : sortA L = S
    have hSl : S.length = L.length := by rw [← hS]; exact sortA_len L
    have hp : ∀ k, k < w.heap.size → (sortWorldK aVals 2 w g 0 n S.toArray os).heap[k]? = (putRowK aVals 2 (Sort.ahead w n) g 0 S.toArray).heap[k]? := fun k hk => by
      show ((putRowK aVals 2 (Sort.ahead w n) g 0 S.toArray).heap ++ os)[k]? = _
      rw [Array.getElem?_append_left (by unfold putRowK; rw [size_putRow]; exact hk)]
    have hblk : (putRowK aVals 2 (Sort.ahead w n) g 0 S.toArray).heap[g]? = some (.cells (putCells id 0 (rowCells aVals S).toArray cur) 33 (0, 0)) := by
      unfold putRowK putRow mapBlock
      rw [flat_rows]
      show (w.heap.modify g _)[g]? = _
      rw [Array.getElem?_modify, if_pos rfl, hg]; rfl
    have hoth : ∀ k, k ≠ g → (putRowK aVals 2 (Sort.ahead w n) g 0 S.toArray).heap[k]? = w.heap[k]? := fun k hk => by
      unfold putRowK putRow mapBlock
      show (w.heap.modify g _)[k]? = _
      rw [Array.getElem?_modify, if_neg (fun e => hk e.symm)]
    have hsz : w.heap.size ≤ (sortWorldK aVals 2 w g 0 n S.toArray os).heap.size := by
      show _ ≤ ((putRowK aVals 2 (Sort.ahead w n) g 0 S.toArray).heap ++ os).size
      rw [Array.size_append]
      unfold putRowK; rw [size_putRow]; exact Nat.le_add_right _ _
    refine ⟨rfl, ⟨⟨by rw [rowCells_len aVals_len, hSl], .inr ⟨g, cap, putCells id 0 (rowCells aVals S).toArray cur, by rw [hSl], Nat.zero_le _, by rw [hp g hgl]; exact hblk, by rw [hSl]; exact hc1, hc2, by unfold putCells; simpa using hc3, ?_⟩⟩, fun k e => hb k e, Nat.le_trans hs hsz⟩, ?_⟩
    · apply List.ext_getElem?
      intro j
      have hrl := rowCells_len aVals_len S
      by_cases hj : j < S.length * 2
      · rw [List.getElem?_take_of_lt hj]
        have hj3 : j < cur.size := by rw [hc3]; rw [hSl] at hj; omega
        have h1 : (putCells id 0 (rowCells aVals S).toArray cur).toList[j]? = some (if 0 ≤ j ∧ j < 0 + (rowCells aVals S).toArray.size then id (rowCells aVals S).toArray[j - 0]! else cur[j]) := by
          unfold putCells
          rw [Array.getElem?_toList, Array.getElem?_mapIdx, Array.getElem?_eq_getElem hj3]; rfl
        rw [h1, if_pos ⟨Nat.zero_le _, by simp; omega⟩]
        have hj4 : j < (rowCells aVals S).toArray.size := by simp; omega
        rw [Nat.sub_zero, getElem!_pos (rowCells aVals S).toArray j hj4, List.getElem?_eq_getElem (by omega)]
        simp
      · rw [List.getElem?_eq_none (by rw [List.length_take]; omega), List.getElem?_eq_none (by omega)]
    · exact ⟨rfl, rfl, rfl, hsz, fun k hk hn => by rw [hp k hk]; exact hoth k (fun e => hn (by rw [e]; rfl))⟩
end Go.Proofs.Ytmclnamgihphcaa
/- slices.Compact of actions of which no two neighbours are the same. -/
set_option linter.unusedVariables false
set_option linter.unusedSimpArgs false
namespace Go.Proofs.Ytmclnamgihphcaa
open Go.RowKit

theorem act_eql (W : World) (h1 h2 : Int) (n1 n2 : ByteArray) (hz : ¬ (h1 = h2 ∧ n1.toList = n2.toList)) :
    (binOp .eql 33 (.agg #[.int .i64 h1, .string n1]) (.agg #[.int .i64 h2, .string n2])).run Try.prog W = .ok (.bool false) W := by
  by_cases e1 : h1 = h2
  · subst e1
    by_cases e2 : n1.toList = n2.toList
    · exact absurd ⟨rfl, e2⟩ hz
    · go_simp
  · go_simp
theorem guardAct (op : BinOp) (x y : Operand) (xs ys : Array Value) (w : World) : (eqGuard op 33 x y (.agg xs) (.agg ys)).run Try.prog w = .ok () w := run_eqGuard_agg w op 33 x y xs ys (by kernel_rfl)
def ApartA (L : List ActD) : Prop := ∀ i a b, L[i]? = some a → L[i + 1]? = some b → a ≠ b
theorem apart_nodup {L : List ActD} (h : L.Nodup) : ApartA L := fun i a b ha hb e => by
  subst e
  obtain ⟨h1, e1⟩ := List.getElem?_eq_some_iff.1 ha
  obtain ⟨h2, e2⟩ := List.getElem?_eq_some_iff.1 hb
  exact List.pairwise_iff_getElem.1 h i (i + 1) h1 h2 (by omega) (e1.trans e2.symm)
set_option maxRecDepth 100000 in
set_option maxHeartbeats 4000000 in
theorem plCompact_c (v : Value) (L : List ActD) (w : World) (hv : Hid (RowsAt 2 aVals w v L)) (hl : L.length ≤ 1000000) (hap : Hid (ApartA L)) :
    Calls Try.prog 19 #[v] w fun e w' => e = .returned v ∧ Keeps (fun _ => False) w w' := by
  obtain ⟨p, c, rfl⟩ := hv.out.slice
  go_enter Try.func19, Try.ntmps19
  by_cases h2 : L.length < 2
  · have m1 : (L.length : Int) < 2 := by omega
    clear h2
    go_wp2_with fail
    go_ret
    exact ⟨rfl, Keeps.refl _ _⟩
  · have m1 : ¬ (L.length : Int) < 2 := by omega
    go_wp2_with fail
    go_loopw [3] (fun iv wr => ∃ (k : Nat), 1 ≤ k ∧ k ≤ L.length ∧ iv = .int .i64 k ∧ Hid (Keeps (fun _ => False) w wr)) (fun iv _ => L.length - (intOf iv).toNat)
    case atStart => exact ⟨1, by omega, by omega, rfl, Lib.hid (Keeps.refl _ _)⟩
    case round =>
      obtain ⟨k, hk1, hk, rfl, hkr⟩ := hrel
      by_cases hlk : k < L.length
      · obtain ⟨j, rfl⟩ : ∃ j, k = j + 1 := ⟨k - 1, by omega⟩
        obtain ⟨g, o, rfl, hrows⟩ := hv.out.open (by omega)
        obtain ⟨x, hx⟩ : ∃ x, L[j]? = some x := ⟨_, List.getElem?_eq_getElem (by omega)⟩
        obtain ⟨y, hy⟩ : ∃ x, L[j + 1]? = some x := ⟨_, List.getElem?_eq_getElem hlk⟩
        obtain ⟨XN, hXN⟩ : ∃ N : ByteArray, N = ⟨x.name.toArray⟩ := ⟨_, rfl⟩
        obtain ⟨YN, hYN⟩ : ∃ N : ByteArray, N = ⟨y.name.toArray⟩ := ⟨_, rfl⟩
        have hrx : Hid (wr.rangeAt g (o + j * 2) [.int .i64 x.kind, .string XN]) := Lib.hid (by rw [hXN]; exact hkr.out.rangeAt (hrows j x hx) id)
        have hry : Hid (wr.rangeAt g (o + (j + 1) * 2) [.int .i64 y.kind, .string YN]) := Lib.hid (by rw [hYN]; exact hkr.out.rangeAt (hrows (j + 1) y hy) id)
        have hne : Hid (¬ (y.kind = x.kind ∧ YN.toList = XN.toList)) := Lib.hid (fun h => by
          refine hap.out j x y hx hy ?_
          have e2 : x.name = y.name := by
            have := h.2
            rw [Lib.toList_data, Lib.toList_data, hXN, hYN] at this
            exact this.symm
          have e1 := h.1
          cases x; cases y; simp_all)
        have n1 : (0 : Int) ≤ ((j + 1 : Nat) : Int) := by omega
        have n2 : ((j + 1 : Nat) : Int) < (L.length : Int) := by omega
        have n3 : (0 : Int) ≤ (j : Int) := by omega
        have n5 : (0 : Int) ≤ (j : Int) + 1 := by omega
        have n6 : (j : Int) + 1 < (L.length : Int) := by omega
        have n4 : (j : Int) < (L.length : Int) := by omega
        have hwj : IntKind.i64.wrap (j : Int) = (j : Int) := by simp [IntKind.wrap, IntKind.bits, IntKind.signed]; omega
        clear hXN hYN hrows hx hy
        go_upto_region 6 with fail
        refine wp_region_noPanic ?_
        refine wp_region_held_drew (S := (fun W => Keeps (fun _ => False) wr W)) (by kernel_rfl) (((Keeps.refl _ _).drew)) (fun hHeld => ?_)
        refine tk 0 rfl ?_
        refine tk 1 rfl ?_
        refine tk 2 rfl ?_
        refine tkL 3 rfl (yieldsIf_load_mid (by rfl) 33 (.tmp 18) rfl g (o + (j + 1) * 2) rfl [.int .i64 y.kind, .string YN] _ (fun _ s => s.rangeAt hry.out id) Try.underlying33 rfl actInfo) ?_
        refine tk 4 rfl ?_
        refine tk 5 rfl ?_
        refine tk 6 rfl ?_
        refine tk 7 rfl ?_
        refine tkL 8 rfl (yieldsIf_load_mid (by rfl) 33 (.tmp 23) rfl g (o + j * 2) rfl [.int .i64 x.kind, .string XN] _ (fun _ s => s.rangeAt hrx.out id) Try.underlying33 rfl actInfo) ?_
        refine tk 9 (v := .bool false) (hy := fun wS hSw => by
          have hl := act_eql wS y.kind x.kind YN XN hne.out
          unfold execOp
          simp only [Act.eval, Array.getD_eq_getD_getElem?, List.getElem?_toArray, List.getElem?_cons_zero, List.getElem?_cons_succ, Option.getD_some, Sem.run_bind, Sem.run_pure, Result.andThen_ok, guardAct, hl]) rfl ?_
        refine wpAnyH_done (by kernel_rfl) (NoPanic.normal ?_) _
        have hKz := Lib.hid (hkr.out.trans hHeld)
        clear hHeld
        go_wp2_with fail
        exact ⟨⟨j + 1 + 1, by omega, by omega, by go_num, hKz⟩, by simp [intOf]; omega⟩
      · obtain rfl : k = L.length := by omega
        go_wp2_with fail
        go_ret
        exact ⟨rfl, hkr.out⟩
end Go.Proofs.Ytmclnamgihphcaa
/- plan.Make, of two right configurations whose actions are all unlike. -/
set_option linter.unusedVariables false
set_option linter.unusedSimpArgs false
namespace Go.Proofs.Ytmclnamgihphcaa
open Go.RowKit

def rawA (a b : List LineD) : List ActD := facesC a b (mergeC (a.length + b.length) a b) ++ areasC (mergeC (a.length + b.length) a b)
def makeA (a b : List LineD) : List ActD := if wholeC a (mergeC (a.length + b.length) a b) = true then [⟨1, []⟩] else sortA (rawA a b)
/-- actions, and no error -/
def MakeRes (L : List ActD) (w : World) (e : Ending) (w' : World) : Prop :=
  ∃ p c, e = .returned (.tuple #[.slice p L.length c, .int .i64 0]) ∧ RowsAt 2 aVals w' (.slice p L.length c) L ∧ Keeps (fun _ => False) w w'
theorem plMake_no (v u : Value) (A B : List LineD) (w : World) (hv : Hid (RowsAt 4 lineVals w v A)) (hu : Hid (RowsAt 4 lineVals w u B)) (hl : A.length ≤ 9223372036854775807) (hl2 : B.length ≤ 9223372036854775807) (hlt : Hid (LinesLt A 9223372036854775807)) (hlt2 : Hid (LinesLt B 9223372036854775807)) (hr : Hid (rightC A = false ∨ rightC B = false)) :
    Calls Try.prog 4 #[v, u] w (NewRes (.tuple #[.slice none 0 0, .int .i64 1]) w) := by
  go_enter Try.func4, Try.ntmps4
  go_wp2_with fail
  refine (lines_no v u A B _ hv hu hl hl2 hlt hlt2 hr).mono ?_
  rintro e w2 ⟨rfl, k2⟩
  have k2' := Lib.hid k2
  clear k2
  go_wp2_with fail
  go_ret2
  exact ⟨rfl, k2'.out⟩
set_option maxRecDepth 100000 in
set_option maxHeartbeats 8000000 in
theorem plMake_c (v u : Value) (A B : List LineD) (w : World) (hv : Hid (RowsAt 4 lineVals w v A)) (hu : Hid (RowsAt 4 lineVals w u B)) (hrA : Hid (rightC A = true)) (hrB : Hid (rightC B = true)) (hnd : Hid ((rawA A B).Nodup)) :
    Calls Try.prog 4 #[v, u] w (MakeRes (makeA A B) w) := by
  have hlA := right_len hrA.out
  have hlB := right_len hrB.out
  have hml := mergeC_len (A.length + B.length) A B (Nat.le_refl _)
  obtain ⟨i0, hi0, hi1, hi2, hi3⟩ := actAll
  have hfl := facesC_len A B (mergeC (A.length + B.length) A B)
  have hn1 := namesA_len 2 A
  have hn2 := namesA_len 2 B
  have hal : (areasC (mergeC (A.length + B.length) A B)).length ≤ (mergeC (A.length + B.length) A B).length := flat_len (f := fun c : ChD => if isCost c = true then [(⟨7, c.line.name⟩ : ActD)] else []) (fun x => by split <;> simp) _
  go_enter Try.func4, Try.ntmps4
  go_wp2_with fail
  refine (lines_c v u A B _ hv hu hrA hrB).mono ?_
  obtain ⟨z, hz⟩ : ∃ z, wholeC A (mergeC (A.length + B.length) A B) = z := ⟨_, rfl⟩
  have hmk : Hid (makeA A B = if z = true then [⟨1, []⟩] else sortA (facesC A B (mergeC (A.length + B.length) A B) ++ areasC (mergeC (A.length + B.length) A B))) := Lib.hid (by rw [← hz]; rfl)
  have hnd' : Hid ((facesC A B (mergeC (A.length + B.length) A B) ++ areasC (mergeC (A.length + B.length) A B)).Nodup) := hnd
  generalize mergeC (A.length + B.length) A B = C at hml hfl hal hz hmk hnd' ⊢
  rintro e w1 ⟨p1, c1, rfl, hO1, k1⟩
  have hc1 := Lib.hid (hO1.at cVals_len)
  have hv1 := Lib.hid (hv.out.keep k1)
  have hu1 := Lib.hid (hu.out.keep k1)
  have hk1 := Lib.hid k1
  have hz' := Lib.hid hz
  clear hO1 k1 hz hnd hv hu
  go_wp2_with fail
  refine (plWhole_any v _ A C z _ hv1 hrA hc1 (by omega) hz').mono ?_
  rintro e w2 ⟨rfl, k2⟩
  have hv2 := Lib.hid (hv1.out.keep k2)
  have hu2 := Lib.hid (hu1.out.keep k2)
  have hc2 := Lib.hid (hc1.out.keep k2)
  have hk2 := Lib.hid (hk1.out.trans k2)
  clear k2 hv1 hu1 hc1 hk1 hz'
  cases z with
  | true =>
    have hR : Hid (RowsAt 2 aVals (w2.alloc (.cells #[.int .i64 1, .string ⟨#[]⟩] 33)) (.slice (some ⟨w2.heap.size, 0, none⟩) 1 1) [⟨1, []⟩]) := Lib.hid ⟨_, 1, rfl, fun h => (by cases h), by simp, fun _ => ⟨_, 0, rfl, fun i x hx => by
      cases i with
      | zero =>
        simp at hx; subst hx
        intro j u hu
        exact (BlkAt.new w2 33 [.int .i64 1, .string ⟨#[]⟩]).range j u hu
      | succ i => simp at hx⟩⟩
    have hkz := Lib.hid (hk2.out.alloc (.cells #[.int .i64 1, .string ⟨#[]⟩] 33))
    go_wp2_with fail
    go_ret2
    rw [show makeA A B = [⟨1, []⟩] by simpa using hmk.out]
    exact ⟨_, 1, rfl, hR.out, hkz.out⟩
  | false =>
    rw [if_neg Bool.false_ne_true] at hmk
    go_wp2_with fail
    refine (plFaces_any v u _ A B C _ hv2 hrA hu2 hrB hc2 (by omega)).mono ?_
    rintro e w3 ⟨p3, d3, rfl, hO3, k3⟩
    have hc3 := Lib.hid (hc2.out.keep k3)
    have hO3' := Lib.hid hO3
    have hk3 := Lib.hid k3
    clear k3 hO3 hv2 hu2 hc2 hrA hrB
    go_wp2_with fail
    refine (plAreas_any _ C _ hc3 (by omega)).mono ?_
    rintro e w4 ⟨p4, d4, rfl, hO4, k4⟩
    have hR4 := Lib.hid (hO4.at aVals_len)
    have hF4 := Lib.hid (hO3'.out.keep k4 (fun _ _ f => f))
    have hk4 := Lib.hid (hk3.out.trans k4)
    clear k4 hO4 hO3' hk3 hc3
    generalize facesC A B C = X at hF4 hfl hnd' hmk ⊢
    generalize areasC C = Y at hR4 hal hnd' hmk ⊢
    have hk24 := Lib.hid (hk2.out.trans hk4.out)
    go_wp2_with ((with_reducible refine at_slot 29 ?_); refine wpList_append_rows rfl (.tmp 26) (.tmp 28) 24 33 rfl i0 _ 24 Try.underlying24 hi0 hi1 hi2 hi3 rfl (by decide) (by decide) aVals_len aVals_one w2 _ X rfl hF4.out _ rfl Y hR4.out (by omega) ?_; intro q8 d8 w8 hO8 hg8)
    have hk8 := Lib.hid (OwnR.keeps hF4.out hk4.out hg8.out)
    have hO9 : Hid (OwnR 33 2 aVals w2 w8 (.slice q8 (X ++ Y).length d8) (X ++ Y)) := Lib.hid (by rw [List.length_append]; exact hO8.out)
    refine (plSort_any _ (X ++ Y) w2 _ hO8 (by rw [List.length_append]; omega)).mono ?_
    rintro e w9 ⟨rfl, hO10, k10⟩
    have hk10 := Lib.hid (hk8.out.trans' k10 (fun i e => .inr (hO9.out.2.1 i (by rw [List.length_append]; exact e))))
    have hR10 := Lib.hid (hO10.at aVals_len)
    have hap : Hid (ApartA (sortA (X ++ Y))) := Lib.hid (apart_nodup ((sortA_perm _).nodup_iff.2 hnd'.out))
    have hsl := sortA_len (X ++ Y)
    have hkk := Lib.hid (hk2.out.trans hk10.out)
    clear hO8 hg8 hO9 hO10 k10 hk10 hk8 hF4 hR4 hk24 hk4
    rw [List.length_append] at hsl
    generalize sortA (X ++ Y) = S at hR10 hap hmk hsl ⊢
    go_wp2_with fail
    refine (plCompact_c _ S _ hR10 (by omega) hap).mono ?_
    rintro e w11 ⟨rfl, k11⟩
    have hR11 := Lib.hid (hR10.out.keep k11)
    have hk11 := Lib.hid (hkk.out.trans k11)
    clear k11 hR10 hkk
    go_wp2_with fail
    go_ret2
    rw [hmk.out]
    rw [← hsl] at hR11 ⊢
    exact ⟨q8, d8, rfl, hR11.out, hk11.out⟩
end Go.Proofs.Ytmclnamgihphcaa
/- What is planned from and to nothing: all unlike, plain. -/
set_option linter.unusedVariables false
set_option linter.unusedSimpArgs false
namespace Go.Proofs.Ytmclnamgihphcaa
open Go.RowKit

theorem names_from (h : Int) : ∀ (ls : List LineD) (p : LineD), rises (p :: ls) → (namesFrom h (some p) ls).Nodup ∧ ∀ n ∈ namesFrom h (some p) ls, (∃ q ∈ ls, q.head = h ∧ q.name = n) ∧ (p.head = h → Op.bytesLess p.name n = true) := by
  intro ls
  induction ls with
  | nil => intro p _; exact ⟨by simp [namesFrom], fun n hn => by simp [namesFrom] at hn⟩
  | cons q r ih =>
    intro p hr
    have hpq := rises_head hr q (by simp)
    have hrt := rises_tail hr
    obtain ⟨i1, i2⟩ := ih q hrt
    rw [lessB_iff] at hpq
    have rest : ∀ n ∈ namesFrom h (some q) r, (∃ q' ∈ q :: r, q'.head = h ∧ q'.name = n) ∧ (p.head = h → Op.bytesLess p.name n = true) := fun n hn => by
      obtain ⟨⟨q', hq', e1, e2⟩, j2⟩ := i2 n hn
      refine ⟨⟨q', by simp [hq'], e1, e2⟩, fun hp => ?_⟩
      have h3 := rises_head hrt q' hq'
      rw [lessB_iff] at h3
      by_cases hq : q.head = h
      · have j3 := j2 hq
        rcases hpq with e | ⟨-, e | ⟨e, -⟩⟩
        · omega
        · exact bl_trans e j3
        · rw [e]; exact j3
      · rcases hpq with e | ⟨e, -⟩
        · rcases h3 with h3 | ⟨h3, -⟩ <;> omega
        · omega
    unfold namesFrom
    by_cases hc : q.head = h ∧ (match some p with | none => true | some p => !(decide (p.head = q.head) && decide (p.name = q.name))) = true
    · rw [if_pos hc]
      obtain ⟨hq, hne⟩ := hc
      refine ⟨?_, ?_⟩
      · rw [List.singleton_append, List.nodup_cons]
        refine ⟨fun hin => ?_, i1⟩
        have := (i2 _ hin).2 hq
        rw [bl_irr] at this
        cases this
      · intro n hn
        rw [List.singleton_append, List.mem_cons] at hn
        rcases hn with rfl | hn
        · refine ⟨⟨q, by simp, hq, rfl⟩, fun hp => ?_⟩
          rcases hpq with e | ⟨-, e | ⟨e, -⟩⟩
          · omega
          · exact e
          · have h5 : p.head = q.head := by omega
            simp [h5, e] at hne
        · exact rest n hn
    · rw [if_neg hc, List.nil_append]
      exact ⟨i1, rest⟩
theorem names_nodup (h : Int) {ls : List LineD} (hr : rises ls) : (namesFrom h none ls).Nodup ∧ ∀ n ∈ namesFrom h none ls, ∃ q ∈ ls, q.head = h ∧ q.name = n := by
  cases ls with
  | nil => exact ⟨by simp [namesFrom], fun n hn => by simp [namesFrom] at hn⟩
  | cons q r =>
    obtain ⟨i1, i2⟩ := names_from h r q hr
    unfold namesFrom
    by_cases hq : q.head = h
    · rw [if_pos ⟨hq, rfl⟩]
      refine ⟨?_, ?_⟩
      · rw [List.singleton_append, List.nodup_cons]
        refine ⟨fun hin => ?_, i1⟩
        have := (i2 _ hin).2 hq
        rw [bl_irr] at this
        cases this
      · intro n hn
        rw [List.singleton_append, List.mem_cons] at hn
        rcases hn with rfl | hn
        · exact ⟨q, by simp, hq, rfl⟩
        · obtain ⟨q', h1, h2⟩ := (i2 n hn).1
          exact ⟨q', by simp [h1], h2⟩
    · rw [if_neg (fun e => hq e.1), List.nil_append]
      refine ⟨i1, fun n hn => ?_⟩
      obtain ⟨q', h1, h2⟩ := (i2 n hn).1
      exact ⟨q', by simp [h1], h2⟩

theorem merge_left : ∀ (n : Nat) (a : List LineD), a.length ≤ n → mergeC n a [] = a.flatMap (fun l => oneCh l l.value []) := by
  intro n
  induction n with
  | zero =>
    intro a h
    obtain rfl : a = [] := List.eq_nil_of_length_eq_zero (by omega)
    rfl
  | succ n ih =>
    intro a h
    cases a with
    | nil => rfl
    | cons x r =>
      rw [mergeC, if_neg (by simp)]
      have h1 : stepCh (x :: r) [] = oneCh x x.value [] := rfl
      have h2 : nextL (x :: r) [] = r := rfl
      have h3 : nextL [] (x :: r) = [] := rfl
      rw [h1, h2, h3, ih r (by simpa using h), List.flatMap_cons]
theorem merge_right : ∀ (n : Nat) (b : List LineD), b.length ≤ n → mergeC n [] b = b.flatMap (fun l => oneCh l [] l.value) := by
  intro n
  induction n with
  | zero =>
    intro a h
    obtain rfl : a = [] := List.eq_nil_of_length_eq_zero (by omega)
    rfl
  | succ n ih =>
    intro a h
    cases a with
    | nil => rfl
    | cons x r =>
      rw [mergeC, if_neg (by simp)]
      have h1 : stepCh [] (x :: r) = oneCh x [] x.value := rfl
      have h2 : nextL (x :: r) [] = r := rfl
      have h3 : nextL [] (x :: r) = [] := rfl
      rw [h1, h2, h3, ih r (by simpa using h), List.flatMap_cons]
theorem areas_one (l : LineD) (a b : List UInt8) : areasC (oneCh l a b) = [] ∨ (areasC (oneCh l a b) = [⟨7, l.name⟩] ∧ l.head = 1 ∧ l.leaf = costW) := by
  unfold oneCh
  by_cases h : a = b
  · rw [if_pos h]; left; rfl
  · rw [if_neg h]
    unfold areasC
    rw [List.flatMap_cons, List.flatMap_nil, List.append_nil]
    by_cases hc : isCost ⟨⟨l.head, l.name, l.leaf, []⟩, a, b⟩ = true
    · right
      rw [if_pos hc]
      unfold isCost at hc
      simp only [Bool.and_eq_true, decide_eq_true_eq] at hc
      exact ⟨rfl, hc.1, hc.2⟩
    · left; rw [if_neg hc]
theorem areas_nodup (g : LineD → List ActD) (hg : ∀ l, g l = [] ∨ (g l = [⟨7, l.name⟩] ∧ l.head = 1 ∧ l.leaf = costW)) : ∀ (ls : List LineD), rises ls → (ls.flatMap g).Nodup ∧ ∀ a ∈ ls.flatMap g, ∃ l ∈ ls, a = ⟨7, l.name⟩ ∧ l.head = 1 ∧ l.leaf = costW := by
  intro ls
  induction ls with
  | nil => intro _; exact ⟨by simp, fun a ha => by simp at ha⟩
  | cons x r ih =>
    intro hr
    obtain ⟨i1, i2⟩ := ih (rises_tail hr)
    rw [List.flatMap_cons]
    have rest : ∀ a ∈ r.flatMap g, ∃ l ∈ x :: r, a = ⟨7, l.name⟩ ∧ l.head = 1 ∧ l.leaf = costW := fun a ha => by
      obtain ⟨l, hl, e⟩ := i2 a ha
      exact ⟨l, by simp [hl], e⟩
    rcases hg x with e | ⟨e, e1, e2⟩
    · rw [e, List.nil_append]; exact ⟨i1, rest⟩
    · rw [e]
      refine ⟨?_, fun a ha => ?_⟩
      · rw [List.singleton_append, List.nodup_cons]
        refine ⟨fun hin => ?_, i1⟩
        obtain ⟨l, hl, f, f1, f2⟩ := i2 _ hin
        have hn : x.name = l.name := by injection f
        have hless := rises_head hr l hl
        rw [lessB_iff] at hless
        rcases hless with h | ⟨-, h | ⟨-, h⟩⟩
        · omega
        · rw [hn, bl_irr] at h; cases h
        · rw [e2, f2, bl_irr] at h; cases h
      · rw [List.singleton_append, List.mem_cons] at ha
        rcases ha with rfl | ha
        · exact ⟨x, by simp, rfl, e1, e2⟩
        · exact rest a ha
theorem map_nodup (k : Int) {xs : List (List UInt8)} (h : xs.Nodup) : (xs.map fun n => (⟨k, n⟩ : ActD)).Nodup := by
  rw [List.nodup_iff_pairwise_ne, List.pairwise_map]
  exact (List.nodup_iff_pairwise_ne.1 h).imp (fun hne e => hne (by injection e))
theorem namesA_nodup {ls : List LineD} (hr : rightC ls = true) (h : Int) : (namesA h ls).Nodup := by
  unfold namesA
  split
  · simp
  · exact (names_nodup h (right_rises hr)).1
theorem both_nodup {X Y : List ActD} {k : Int} (hX : X.Nodup) (hY : Y.Nodup) (h1 : ∀ a ∈ X, a.kind = k) (h2 : ∀ a ∈ Y, a.kind = 7) (hk : k ≠ 7) : (X ++ Y).Nodup := by
  rw [List.nodup_append]
  refine ⟨hX, hY, fun a ha b hb e => ?_⟩
  subst e
  exact hk ((h1 a ha).symm.trans (h2 a hb))
theorem raw_left {x : List LineD} (hr : rightC x = true) : (rawA x []).Nodup := by
  unfold rawA
  rw [merge_left _ x (by simp)]
  have hf : ∀ cs, facesC x [] cs = (namesA 2 x).map fun n => (⟨2, n⟩ : ActD) := fun cs => by
    unfold facesC
    rw [show namesA 2 [] = [] from rfl, List.flatMap_nil, List.append_nil, List.map_eq_flatMap]
    congr 1
  have ha : areasC (x.flatMap fun l => oneCh l l.value []) = x.flatMap fun l => areasC (oneCh l l.value []) := by unfold areasC; rw [List.flatMap_assoc]
  rw [hf, ha]
  obtain ⟨h1, h2⟩ := areas_nodup _ (fun l => areas_one l l.value []) x (right_rises hr)
  refine both_nodup (k := 2) (map_nodup 2 (namesA_nodup hr 2)) h1 (fun a h => ?_) (fun a h => ?_) (by decide)
  · obtain ⟨n, -, rfl⟩ := List.mem_map.1 h; rfl
  · obtain ⟨l, -, e, -⟩ := h2 a h; rw [e]
theorem raw_right {x : List LineD} (hr : rightC x = true) : (rawA [] x).Nodup := by
  unfold rawA
  rw [merge_right _ x (by simp)]
  have hf : ∀ cs, facesC [] x cs = (namesA 2 x).map fun n => (⟨6, n⟩ : ActD) := fun cs => by
    unfold facesC
    rw [show namesA 2 [] = [] from rfl, List.flatMap_nil, List.nil_append, List.map_eq_flatMap]
    congr 1
  have ha : areasC (x.flatMap fun l => oneCh l [] l.value) = x.flatMap fun l => areasC (oneCh l [] l.value) := by unfold areasC; rw [List.flatMap_assoc]
  rw [hf, ha]
  obtain ⟨h1, h2⟩ := areas_nodup _ (fun l => areas_one l [] l.value) x (right_rises hr)
  refine both_nodup (k := 6) (map_nodup 6 (namesA_nodup hr 2)) h1 (fun a h => ?_) (fun a h => ?_) (by decide)
  · obtain ⟨n, -, rfl⟩ := List.mem_map.1 h; rfl
  · obtain ⟨l, -, e, -⟩ := h2 a h; rw [e]
theorem right_nil : rightC [] = true := by decide
def lineP (v : UInt8) : LineD := ⟨2, [101, 116, 104, 48], costW, [v]⟩
theorem plans_right : rightC [lineP 53] = true ∧ rightC [lineP 54] = true := by decide +kernel
theorem one_of {L : List ActD} {k : Int} {n : List UInt8} (h : L.map (fun a => (a.kind, a.name)) = [(k, n)]) : L = [⟨k, n⟩] := by
  match L, h with
  | [a], h =>
    simp at h
    obtain ⟨rfl, rfl⟩ := h
    rfl
theorem plans_rawd : (rawA [lineP 53] [lineP 54]).map (fun a => (a.kind, a.name)) = [(7, [101, 116, 104, 48])] ∧ wholeC [lineP 53] (mergeC 2 [lineP 53] [lineP 54]) = false := by decide +kernel
theorem plans_raw : rawA [lineP 53] [lineP 54] = [⟨7, [101, 116, 104, 48]⟩] ∧ wholeC [lineP 53] (mergeC 2 [lineP 53] [lineP 54]) = false := ⟨one_of plans_rawd.1, plans_rawd.2⟩
theorem plans_make : makeA [lineP 53] [lineP 54] = [⟨7, [101, 116, 104, 48]⟩] := by
  unfold makeA
  rw [show wholeC [lineP 53] (mergeC ([lineP 53].length + [lineP 54].length) [lineP 53] [lineP 54]) = false from plans_raw.2, if_neg Bool.false_ne_true, plans_raw.1]
  simp [sortA]
end Go.Proofs.Ytmclnamgihphcaa
/- strings.Builder: copyCheck, WriteString, by hand; String by the shelf (ShelfB). -/
set_option linter.unusedVariables false
set_option linter.unusedSimpArgs false
namespace Go.Proofs.Ytmclnamgihphcaa
open Go.RowKit

theorem sizeB : (Try.prog.info? 59).map (·.size) = some 2 := by kernel_rfl
theorem liesB : liesAt Try.prog Try.prog.depth 59 (2 / Try.prog.cellsOf 59) 0 59 1 = true := by kernel_rfl
theorem infoB : (Try.prog.info? 5).map (fun i => (i.zero, i.size, i.bytes)) = some (some (.int .u8 0), 1, 1) := by kernel_rfl
set_option maxHeartbeats 1000000 in
set_option maxRecDepth 100000 in
theorem cc_used (b : Nat) (w : World) (h0 : w.cell? ⟨b, 0, none⟩ = some (.pointer (some ⟨b, 0, none⟩))) :
    Calls Try.prog 39 #[.pointer (some ⟨b, 0, none⟩)] w fun e w' => e = .returned (.tuple #[]) ∧ w' = w := by
  obtain ⟨j, hj, _⟩ := Option.map_eq_some_iff.1 sizeB
  go_enter Try.func39, Try.ntmps39
  go_wp2
  rw [Lib.run_neq_ptr_same w _ Try.underlying56 hj]
  go_wp2
  go_end0
  exact ⟨rfl, rfl⟩
set_option maxHeartbeats 1000000 in
set_option maxRecDepth 100000 in
theorem cc_fresh (b : Nat) (w : World) (h0 : w.cell? ⟨b, 0, none⟩ = some (.pointer none)) (hsh : w.shape? b = some (59, 2)) (hfz : w.frozen? ⟨b, 0, none⟩ = false) :
    Calls Try.prog 39 #[.pointer (some ⟨b, 0, none⟩)] w fun e w' => e = .returned (.tuple #[]) ∧ w' = w.setCell ⟨b, 0, none⟩ (.pointer (some ⟨b, 0, none⟩)) := by
  obtain ⟨j, hj, hjs⟩ := Option.map_eq_some_iff.1 sizeB
  go_enter Try.func39, Try.ntmps39
  go_wp2
  rw [Lib.run_to_unsafe w ⟨b, 0, none⟩ Try.underlying56 Try.underlying118 hj (by rw [hjs]; decide) hsh (Nat.zero_lt_succ 1)]
  simp only [Result.andThen]
  rw [Oper.upon_value]
  go_wp2
  rw [run_callFunc_extern Try.func65 (by kernel_rfl) (by kernel_rfl) (by kernel_rfl) (e := Extern.AbiNoEscape.same) (by kernel_rfl)]
  rw [Lib.run_noEscape]
  simp only [Result.andThen]
  rw [Oper.upon_value]
  go_wp2
  rw [Lib.run_from_unsafe w ⟨b, 0, none⟩ Try.underlying118 Try.underlying56 hj hsh liesB]
  simp only [Result.andThen]
  rw [Oper.upon_value]
  go_wp2
  go_end0
  exact ⟨rfl, rfl⟩
/-- what is older than B stays, and so do blocks of other types -/
structure KeepsT (B : Nat) (w w' : World) : Prop where
  k : Keeps (fun i => B ≤ i) w w'
  t : ∀ (x : Nat) (t : TypeId) (cs : Array Value), t ≠ 5 → t ≠ 59 → w.heap[x]? = some (.cells cs t (0, 0)) → w'.heap[x]? = some (.cells cs t (0, 0))
theorem KeepsT.trans {B : Nat} {a b c : World} (h : KeepsT B a b) (k : KeepsT B b c) : KeepsT B a c := ⟨h.k.trans k.k, fun x t cs h1 h2 h3 => k.t x t cs h1 h2 (h.t x t cs h1 h2 h3)⟩
theorem KeepsT.of {B : Nat} {w w' : World} (k : Keeps (fun _ => False) w w') : KeepsT B w w' := ⟨k.mono (fun _ e => e.elim), fun x t cs _ _ h => by
  have hx : x < w.heap.size := by
    rcases Nat.lt_or_ge x w.heap.size with h' | h'
    · exact h'
    · simp [Array.getElem?_eq_none h'] at h
  rw [k.block x hx id]; exact h⟩
theorem KeepsT.blk {B : Nat} {w w' : World} (k : KeepsT B w w') {x : Nat} {t : TypeId} {cs : List Value} (h : BlkAt w x t cs) (h1 : t ≠ 5) (h2 : t ≠ 59) : BlkAt w' x t cs := k.t x t _ h1 h2 h
def IsB (B b : Nat) (bs : List Value) (w : World) : Prop := Lib.IsBuilder 59 5 B b bs w
theorem cc_any (B b : Nat) (bs : List Value) (w : World) (h : IsB B b bs w) :
    Calls Try.prog 39 #[.pointer (some ⟨b, 0, none⟩)] w fun e w' => e = .returned (.tuple #[]) ∧ (Lib.BuilderAt 59 5 B b (.pointer (some ⟨b, 0, none⟩)) bs w' ∧ KeepsT B w w') := by
  rcases h with h | h
  · refine (cc_fresh b w h.cell0 h.shape h.frozen0).mono ?_
    rintro e w' ⟨rfl, rfl⟩
    obtain ⟨hB, v, hbk, hown, hne⟩ := h
    refine ⟨rfl, Lib.BuilderAt.used (p := .pointer none) ⟨hB, v, hbk, hown, hne⟩ _, (Keeps.refl _ _).setCell (p := ⟨b, 0, none⟩) (.inl hB) _, fun x t cs h1 h2 h3 => ?_⟩
    rw [heap_setCell_other _ _ _ _ (fun e => by
      have e : x = b := e
      subst e; rw [hbk] at h3; injection h3 with h3; injection h3 with h4 h5 h6; exact h2 h5.symm)]
    exact h3
  · refine (cc_used b w h.cell0).mono ?_
    rintro e w' ⟨rfl, rfl⟩
    exact ⟨rfl, h, KeepsT.of (Keeps.refl _ _)⟩
set_option maxHeartbeats 2000000 in
set_option maxRecDepth 100000 in
theorem writeString_any (B b : Nat) (l : List UInt8) (s : ByteArray) (w : World) (h : IsB B b (Lib.byteCells l) w) (hlen : l.length + s.size ≤ 1000000000) (hBw : B ≤ w.heap.size) :
    Calls Try.prog 22 #[.pointer (some ⟨b, 0, none⟩), .string s] w fun e w' => e = .returned (.tuple #[.int .i64 s.size, .nilIface]) ∧ (IsB B b (Lib.byteCells (l ++ s.data.toList)) w' ∧ KeepsT B w w') := by
  obtain ⟨i0, hi, hz0, hz1, hz2⟩ := info_parts infoB
  have hl : (Lib.byteCells l).length = l.length := Lib.byteCells_length l
  go_enter Try.func22, Try.ntmps22
  go_wp2_with fail
  refine (cc_any B b (Lib.byteCells l) _ h).mono ?_
  rintro e w1 ⟨rfl, h1, hb1⟩
  obtain ⟨hB, v, hbk, hown, hne⟩ := h1
  have c0 : w1.cell? ⟨b, 0, none⟩ = some (.pointer (some ⟨b, 0, none⟩)) := by rw [Lib.cell_of_heap hbk]; rfl
  have c1 : w1.cell? ⟨b, 1, none⟩ = some v := by rw [Lib.cell_of_heap hbk]; rfl
  go_wp2_with (at_builtin; refine Lib.wpList_append_own_string _ rfl _ _ 57 9 rfl B 5 i0 Try.underlying57 Try.underlying9 hi hz0 hz1 hz2 _ _ _ rfl hown s rfl ?c3 ?c4 ?c5 ?_)
  case c3 => unfold maxLen; omega
  case c4 => omega
  case c5 => have := hb1.k.size; omega
  intro v' w2 hown' hgrow _
  have hlt : b < w1.heap.size := by
    rcases Nat.lt_or_ge b w1.heap.size with h' | h'
    · exact h'
    · simp [Array.getElem?_eq_none h'] at hbk
  have hb2 : w2.heap[b]? = some (.cells #[.pointer (some ⟨b, 0, none⟩), v] 59 (0, 0)) := by
    rw [hgrow.block b hlt (fun e => hne e.symm)]
    exact hbk
  have d0 : w2.cell? ⟨b, 0, none⟩ = some (.pointer (some ⟨b, 0, none⟩)) := by rw [Lib.cell_of_heap hb2]; rfl
  have d1 : w2.cell? ⟨b, 1, none⟩ = some v := by rw [Lib.cell_of_heap hb2]; rfl
  have f1 : w2.frozen? ⟨b, 1, none⟩ = false := Lib.frozen_of_heap hb2 1
  obtain ⟨ao, n', cap, rfl⟩ : ∃ ao n' cap, v' = .slice ao n' cap := by
    rcases hown'.2 with ⟨hv, _⟩ | ⟨g, cap, cur, hv, _⟩
    · exact ⟨_, _, _, hv⟩
    · exact ⟨_, _, _, hv⟩
  go_wp2
  go_ret2
  refine ⟨rfl, .inr ?_, ?_⟩
  · have e : Lib.byteCells (l ++ s.data.toList) = Lib.byteCells l ++ Lib.strCells s := by simp [Lib.byteCells, Lib.strCells]
    rw [e]
    exact Lib.BuilderAt.put (T := 59) (e := 5) hB hb2 (bs' := Lib.byteCells l ++ Lib.strCells s) (by rw [List.length_append, Lib.strCells_length, hl]; exact hown') (by decide)
  · refine hb1.trans ⟨((Keeps.refl _ _).grown hgrow (fun k hk => .inl ((hown.lt k hk).1))).setCell (p := ⟨b, 1, none⟩) (.inl hB) _, fun x t cs h1 h2 h3 => ?_⟩
    have hx : x < w1.heap.size := by
      rcases Nat.lt_or_ge x w1.heap.size with h' | h'
      · exact h'
      · simp [Array.getElem?_eq_none h'] at h3
    rw [heap_setCell_other _ _ _ _ (fun e => by
      have e : x = b := e
      subst e; rw [hbk] at h3; injection h3 with h3; injection h3 with h4 h5 h6; exact h2 h5.symm)]
    rw [hgrow.block x hx (fun e => by
      rcases hown.2 with ⟨hv, _⟩ | ⟨g, cap, cur, hv, _, hg, _⟩
      · subst hv; cases e
      · subst hv
        simp only [Value.ownBlock, Option.some.injEq] at e
        subst e
        rw [hg] at h3; injection h3 with h3; injection h3 with h4 h5 h6; exact h1 h5.symm)]
    exact h3
end Go.Proofs.Ytmclnamgihphcaa
/- (*strings.Builder).String at this program, laid in plain words: laid by lay-shelf.mjs and lay-plain.mjs, then its numbers made names. -/
namespace Go.Proofs.Ytmclnamgihphcaa
open Go.Shelf
def Try.lays169_ren : Go.Shelf.Ren := ⟨fun | 169 => 24 | n => n, fun | 70 => 56 | 9 => 9 | 0 => 0 | 72 => 59 | 37 => 57 | 127 => 88 | 3 => 3 | 5 => 5 | n => n, fun | n => n⟩
theorem Try.lays169 : Go.Proofs.Lays.n169 Try.prog Try.lays169_ren := {
  mixed := by kernel_rfl
  f169 := Try.func24.trans (congrArg some (by kernel_rfl))
  t0 := Try.underlying0
  a0 := Try.isAgg0
  z0 := Try.sizeOf0
  v0 := Try.zeroValue0
  t3 := Try.underlying3
  a3 := Try.isAgg3
  z3 := Try.sizeOf3
  v3 := Try.zeroValue3
  t9 := Try.underlying9
  a9 := Try.isAgg9
  z9 := Try.sizeOf9
  v9 := Try.zeroValue9
  t37 := Try.underlying57
  a37 := Try.isAgg57
  z37 := Try.sizeOf57
  v37 := Try.zeroValue57
  t70 := Try.underlying56
  a70 := Try.isAgg56
  z70 := Try.sizeOf56
  v70 := Try.zeroValue56
  t72 := Try.underlying59
  a72 := Try.isAgg59
  z72 := Try.sizeOf59
  v72 := Try.zeroValue59
  t127 := Try.underlying88
  a127 := Try.isAgg88
  z127 := Try.sizeOf88
  v127 := Try.zeroValue88 }
theorem Try.Builder_Extra_169 : Builder.Extra Try.prog Try.lays169_ren := {
  sizeBuilder := by kernel_rfl
  liesBuilder := by kernel_rfl
  t5 := Try.underlying5
  a5 := Try.isAgg5
  z5 := Try.sizeOf5
  v5 := Try.zeroValue5
  infoByte := by kernel_rfl
  cellsByte := by kernel_rfl
  sizeByte := by kernel_rfl
  neB5 := by decide }
open Go.RowKit in
theorem Try.Builder_String (B b : Nat) (l : List UInt8) (w : World) (h : Lib.IsBuilder 59 5 B b (Lib.byteCells l) w) (h0 : l ≠ []) :
    Calls Try.prog 24 #[.pointer (some ⟨b, 0, none⟩)] w fun e w' => e = .returned (.string ⟨l.toArray⟩) ∧ Below B w w' := Any.Builder_String Try.lays169 Try.Builder_Extra_169 B b l w h h0
open Go.RowKit in
theorem Try.Builder_String_empty (B b : Nat) (w : World) (h : Lib.IsBuilder 59 5 B b [] w) (hBw : B ≤ w.heap.size) :
    Calls Try.prog 24 #[.pointer (some ⟨b, 0, none⟩)] w fun e w' => e = .returned (.string ⟨#[]⟩) ∧ Below B w w' := Any.Builder_String_empty Try.lays169 Try.Builder_Extra_169 B b w h hBw
open Go.RowKit in
theorem Try.Builder_String_any (B b : Nat) (l : List UInt8) (w : World) (h : Lib.IsBuilder 59 5 B b (Lib.byteCells l) w) (hBw : B ≤ w.heap.size) :
    Calls Try.prog 24 #[.pointer (some ⟨b, 0, none⟩)] w fun e w' => e = .returned (.string ⟨l.toArray⟩) ∧ Below B w w' := Any.Builder_String_any Try.lays169 Try.Builder_Extra_169 B b l w h hBw
end Go.Proofs.Ytmclnamgihphcaa
