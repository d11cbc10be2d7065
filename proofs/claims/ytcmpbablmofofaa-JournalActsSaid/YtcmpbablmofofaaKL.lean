/- JournalTries: walked. -/
import Derived.Test.YtcmpbablmofofaaKI
import Derived.Test.YtcmpbablmofofaaKK
set_option linter.unusedVariables false
set_option linter.unusedSimpArgs false
namespace Go.Proofs.Ytcmpbablmofofaa
open Go.RowKit

/-- the entries that the law makes -/
def tent (j k : Nat) : List UInt8 := [UInt8.ofNat j, UInt8.ofNat k, 120]
def tents (j n : Nat) : List (List UInt8) := (List.range n).map (tent j)
theorem tents_len (j n : Nat) : (tents j n).length = n := by unfold tents; simp
theorem tents_snoc (j n : Nat) : tents j (n + 1) = tents j n ++ [tent j n] := by unfold tents; rw [List.range_succ, List.map_append]; rfl
theorem tents_mem {j n : Nat} {l : List UInt8} (h : l ∈ tents j n) : l.length = 3 := by
  unfold tents at h
  obtain ⟨k, -, rfl⟩ := List.mem_map.1 h
  rfl
theorem tents_all (j n : Nat) : (tents j n).all allowedB = true := List.all_eq_true.2 (fun l hl => by
  have := tents_mem hl
  unfold allowedB
  rw [this]; decide)
theorem tents_used (j : Nat) : ∀ n, usedOf (tents j n) = n
  | 0 => rfl
  | n + 1 => by
    have h : takes (tent j n).length = 1 := by show takes 3 = 1; decide
    rw [tents_snoc, usedOf_snoc, tents_used j n, h]
def firstB : List UInt8 := [102, 105, 114, 115, 116]
def moreB : List UInt8 := [109, 111, 114, 101]
theorem cell_two {w : World} {gl t : Nat} {f : Nat → Value} (h : w.heap[gl]? = some (.cells #[f 0, f 1] t)) {j : Nat} (hj : j < 2) : w.cell? ⟨gl, j, none⟩ = some (f j) := by
  unfold World.cell?
  simp only [h]
  obtain rfl | rfl : j = 0 ∨ j = 1 := by omega
  · rfl
  · rfl
theorem fr_two {w : World} {gl t : Nat} {f : Nat → Value} (h : w.heap[gl]? = some (.cells #[f 0, f 1] t)) (o : Nat) : w.frozen? ⟨gl, o, none⟩ = false := by simp [World.frozen?, h]
theorem cnt_wrap (z : Int) : wrap64 (1 + wrap64 ((IntKind.u64.wrap z).tmod 9)) = ((1 + ((z % 18446744073709551616) % 9).toNat : Nat) : Int) := by
  have h := umod z 9 (by decide) (by decide)
  rw [h.1]
  have h2 := h.2
  unfold wrap64; omega
theorem cnt_le (a b : Int) (j : Nat) : 1 ≤ (if j = 0 then 1 + ((a % 18446744073709551616) % 9).toNat else 1 + ((b % 18446744073709551616) % 9).toNat) ∧ (if j = 0 then 1 + ((a % 18446744073709551616) % 9).toNat else 1 + ((b % 18446744073709551616) % 9).toNat) ≤ 9 := by
  split <;> omega
/-- the two lists, as far as they are made -/
def cn (cnt : Nat → Nat) (i k j : Nat) : Nat := if j < i then cnt j else if j = i then k else 0
structure LSt (w0 w : World) (gl : Nat) (cnt : Nat → Nat) (i k : Nat) (V : Nat → Value) : Prop where
  arr : w.heap[gl]? = some (.cells #[V 0, V 1] 79)
  own : ∀ j, j < 2 → OwnE w0 w (V j) (tents j (cn cnt i k j))
  apart : ∀ b, (V 0).ownBlock = some b → (V 1).ownBlock ≠ some b
theorem LSt.cell {w0 w : World} {gl : Nat} {cnt : Nat → Nat} {i k : Nat} {V : Nat → Value} (h : LSt w0 w gl cnt i k V) (j : Nat) (hj : j < 2) : w.cell? ⟨gl, j, none⟩ = some (V j) := by
  unfold World.cell?
  simp only [h.arr]
  obtain rfl | rfl : j = 0 ∨ j = 1 := by omega
  · rfl
  · rfl
theorem LSt.fr {w0 w : World} {gl : Nat} {cnt : Nat → Nat} {i k : Nat} {V : Nat → Value} (h : LSt w0 w gl cnt i k V) (o : Nat) : w.frozen? ⟨gl, o, none⟩ = false := by simp [World.frozen?, h.arr]
theorem LSt.notOwn {w0 w : World} {gl : Nat} {cnt : Nat → Nat} {i k : Nat} {V : Nat → Value} (h : LSt w0 w gl cnt i k V) : ¬ ∃ cs t r, w.heap[gl]? = some (.cells cs t r) ∧ (t = 27 ∨ t = 5) := fun ⟨cs, t, r, a, b⟩ => by
  rw [h.arr] at a
  injection a with a
  injection a with _ a _
  subst a
  revert b; decide
theorem LSt.keepF {F : Nat → Prop} {w0 w w' : World} {gl : Nat} {cnt : Nat → Nat} {i k : Nat} {V : Nat → Value} (h : LSt w0 w gl cnt i k V) (kp : Keeps F w w') (hF : ∀ i, F i → ¬ ∃ cs t r, w.heap[i]? = some (.cells cs t r) ∧ (t = 27 ∨ t = 5)) (hg : ¬ F gl) : LSt w0 w' gl cnt i k V :=
  ⟨by rw [kp.block gl (lt_of_block h.arr) hg]; exact h.arr, fun j hj => (h.own j hj).keepF kp hF, h.apart⟩
theorem LSt.next {w0 w : World} {gl : Nat} {cnt : Nat → Nat} {i k : Nat} {V : Nat → Value} (h : LSt w0 w gl cnt i k V) (hk : k = cnt i) : LSt w0 w gl cnt (i + 1) 0 V :=
  ⟨h.arr, fun j hj => by
    have e : cn cnt (i + 1) 0 j = cn cnt i k j := by
      unfold cn
      by_cases h1 : j < i
      · rw [if_pos h1, if_pos (by omega)]
      · by_cases h2 : j = i
        · rw [if_neg h1, if_pos h2, if_pos (by omega), hk, h2]
        · rw [if_neg h1, if_neg h2, if_neg (by omega)]
          split <;> rfl
    rw [e]; exact h.own j hj, h.apart⟩
theorem LSt.start {w0 w : World} {gl : Nat} {cnt : Nat → Nat} (h : w.heap[gl]? = some (.cells #[.slice none 0 0, .slice none 0 0] 79)) (hs : w0.heap.size ≤ w.heap.size) : LSt w0 w gl cnt 0 0 (fun _ => .slice none 0 0) :=
  ⟨h, fun j hj => by
    have e : cn cnt 0 0 j = 0 := by unfold cn; rw [if_neg (by omega)]; split <;> rfl
    rw [e]; exact OwnE.nil _ _ hs, fun b e => by simp [Value.ownBlock] at e⟩
theorem LSt.apart2 {w0 w : World} {gl : Nat} {cnt : Nat → Nat} {i k : Nat} {V : Nat → Value} (h : LSt w0 w gl cnt i k V) {a c : Nat} (ha : a < 2) (hc : c < 2) (hac : a ≠ c) (b : Nat) (e : (V a).ownBlock = some b) : (V c).ownBlock ≠ some b := by
  have h1 : a = 0 ∧ c = 1 ∨ a = 1 ∧ c = 0 := by omega
  rcases h1 with ⟨rfl, rfl⟩ | ⟨rfl, rfl⟩
  · exact h.apart b e
  · exact fun e2 => h.apart b e2 e
/-- behind an append to one of the two -/
theorem LSt.grown {w0 w wb w8 : World} {gl : Nat} {cnt : Nat → Nat} {i k : Nat} {V : Nat → Value} (h : LSt w0 w gl cnt i k V) (hi : i < 2) (kb : Keeps (fun _ => False) w wb) {p : Option Addr} {n c : Nat} (g : Grown wb (V i) p n c w8) :
    w8.heap[gl]? = some (.cells #[V 0, V 1] 79) ∧ ∀ j, j < 2 → j ≠ i → OwnE w0 w8 (V j) (tents j (cn cnt i k j)) := by
  have hg0 : wb.heap[gl]? = some (.cells #[V 0, V 1] 79) := by rw [kb.block gl (lt_of_block h.arr) id]; exact h.arr
  obtain ⟨vs, hvs, hOv, hvb⟩ := (h.own i hi).keep kb
  have hty : ∀ b, (V i).ownBlock = some b → ∃ cs r, wb.heap[b]? = some (.cells cs 27 r) := fun b e => hOv.ty e
  refine ⟨?_, fun j hj hji => ?_⟩
  · rw [g.k.block gl (lt_of_block hg0) (fun e => ?_)]
    · exact hg0
    · obtain ⟨cs, r, e2⟩ := hty gl e
      rw [hg0] at e2
      injection e2 with e2
      injection e2 with _ e2 _
      revert e2; decide
  · obtain ⟨us, h1, h2, h3⟩ := (h.own j hj).keep kb
    refine ⟨us, h1, h2.keep g.k (fun b e e2 => h.apart2 hj hi hji b e e2), fun a v l c1 c2 => (h3 a v l c1 c2).keep g.k (fun b e e2 => ?_)⟩
    obtain ⟨cs, r, e3⟩ := (h3 a v l c1 c2).ty e
    obtain ⟨cs2, r2, e4⟩ := hty b e2
    rw [e3] at e4
    injection e4 with e4
    injection e4 with _ e4 _
    revert e4; decide
/-- one more entry, stored -/
theorem LSt.put {w0 w wb w8 : World} {gl : Nat} {cnt : Nat → Nat} {i k : Nat} {V : Nat → Value} (h : LSt w0 w gl cnt i k V) (hi : i < 2) (kb : Keeps (fun _ => False) w wb) {p : Option Addr} {n c : Nat} (g : Grown wb (V i) p n c w8) (hv : OwnE w0 w8 (.slice p n c) (tents i (k + 1))) :
    LSt w0 (w8.setCell ⟨gl, i, none⟩ (.slice p n c)) gl cnt i (k + 1) (fun j => if j = i then .slice p n c else V j) := by
  obtain ⟨hg8, ho8⟩ := h.grown hi kb g
  generalize hvv : Value.slice p n c = v at hv ⊢
  have ks : Keeps (fun b => b = gl) w8 (w8.setCell ⟨gl, i, none⟩ v) := Keeps.setCell (F := fun b => b = gl) (Keeps.refl _ _) (p := ⟨gl, i, none⟩) (.inl rfl) _
  have hF : ∀ b, b = gl → ¬ ∃ cs t r, w8.heap[b]? = some (.cells cs t r) ∧ (t = 27 ∨ t = 5) := fun b e ⟨cs, t, r, a1, a2⟩ => by
    rw [e, hg8] at a1
    injection a1 with a1
    injection a1 with _ a1 _
    subst a1
    revert a2; decide
  have hap : ∀ j, j < 2 → j ≠ i → ∀ b, (V j).ownBlock = some b → v.ownBlock ≠ some b := fun j hj hji b e e2 => by
    rw [← hvv] at e2
    rcases g.s b e2 with e3 | e3
    · exact h.apart2 hj hi hji b e e3
    · obtain ⟨us, h1, h2, h3⟩ := (h.own j hj).keep kb
      obtain ⟨cs, r, e4⟩ := h2.ty e
      have := lt_of_block e4
      omega
  refine ⟨?_, fun j hj => ?_, ?_⟩
  · have h2 := heap_put hg8 i v
    have e : (#[V 0, V 1] : Array Value).setIfInBounds i v = #[if 0 = i then v else V 0, if 1 = i then v else V 1] := by
      obtain rfl | rfl : i = 0 ∨ i = 1 := by omega
      · rfl
      · rfl
    rw [e] at h2
    exact h2
  · by_cases e : j = i
    · subst e
      have e2 : cn cnt j (k + 1) j = k + 1 := by unfold cn; rw [if_neg (by omega), if_pos rfl]
      simp only [if_pos, e2]
      exact hv.keepF ks hF
    · have e2 : cn cnt i (k + 1) j = cn cnt i k j := by unfold cn; rw [if_neg e, if_neg e]
      simp only [if_neg e, e2]
      exact (ho8 j hj e).keepF ks hF
  · intro b
    obtain rfl | rfl : i = 0 ∨ i = 1 := by omega
    · simp only [if_pos, if_neg (show ¬ (1 : Nat) = 0 by decide)]
      exact fun e1 e2 => hap 1 (by omega) (by omega) b e2 e1
    · simp only [if_pos, if_neg (show ¬ (0 : Nat) = 1 by decide)]
      exact fun e1 e2 => hap 0 (by omega) (by omega) b e1 e2
theorem BoolsAt.keep {w w' : World} {v : Value} {x : List Bool} (h : BoolsAt w v x) (k : Keeps (fun _ => False) w w') : BoolsAt w' v x := by
  obtain ⟨p, c, h1, h2, h3⟩ := h
  refine ⟨p, c, h1, h2, fun h0 => ?_⟩
  obtain ⟨b, o, e, hr⟩ := h3 h0
  exact ⟨b, o, e, k.rangeAt hr id⟩
section
variable [Inhabited BaseN]
theorem LSt.keepC {w0 w w' : World} {gl : Nat} {cnt : Nat → Nat} {i k : Nat} {V : Nat → Value} (h : LSt w0 w gl cnt i k V) {jb db gen half used : Nat} {ev : Value} {ended : Bool} (hj : JHead w jb db gen half ev used ended) (kp : Keeps (fun b => DTy w b ∨ b = jb) w w') : LSt w0 w' gl cnt i k V :=
  h.keepF kp (fun b hb ⟨cs, t, r, a1, a2⟩ => by
    rcases hb with ⟨_, cs2, t2, r2, b1, b2⟩ | rfl
    · rw [a1] at b1
      injection b1 with b1
      injection b1 with _ b1 _
      subst b1
      revert a2 b2
      rintro (rfl | rfl) (d | d | d) <;> revert d <;> decide
    · rw [hj.hd] at a1
      injection a1 with a1
      injection a1 with _ a1 _
      subst a1
      revert a2; decide) (fun hb => by
    rcases hb with ⟨_, cs2, t2, r2, b1, b2⟩ | e
    · rw [h.arr] at b1
      injection b1 with b1
      injection b1 with _ b1 _
      subst b1
      revert b2; decide
    · have h1 := h.arr
      rw [e, hj.hd] at h1
      injection h1 with h1
      injection h1 with _ h1 _
      revert h1; decide)
theorem LSt.keepD {w0 w w' : World} {gl : Nat} {cnt : Nat → Nat} {i k : Nat} {V : Nat → Value} (h : LSt w0 w gl cnt i k V) (kp : KeepD w w') : LSt w0 w' gl cnt i k V :=
  h.keepF kp (fun b ⟨_, cs2, t2, r2, b1, b2⟩ ⟨cs, t, r, a1, a2⟩ => by
    rw [a1] at b1
    injection b1 with b1
    injection b1 with _ b1 _
    subst b1
    revert a2 b2
    rintro (rfl | rfl) (d | d | d) <;> revert d <;> decide) (fun ⟨_, cs2, t2, r2, b1, b2⟩ => by
    rw [h.arr] at b1
    injection b1 with b1
    injection b1 with _ b1 _
    subst b1
    revert b2; decide)
/-- a constant's bytes, as the walk meets them -/
theorem const_conv (w : World) (l : List UInt8) (n : Nat) (hn : l.length = n) (C : Array Value) (hC : (l.map bv).toArray = C) : ∃ w', (convert 27 27 (.slice (some ⟨w.heap.size, 0, none⟩) n n)).run Try.prog (w.alloc (.cells C 5)) = .ok (.slice (some ⟨w.heap.size, 0, none⟩) n n) w' ∧
    Keeps (fun _ => False) w w' ∧ BytesAt w' (.slice (some ⟨w.heap.size, 0, none⟩) n n) l ∧ ∀ k, (Value.slice (some ⟨w.heap.size, 0, none⟩) n n).ownBlock = some k → ¬ DTy w' k := by
  subst hC
  have h := Lib.run_convert_bytes_const (P := Try.prog) w 27 5 (l.map bv).toArray n n Try.underlying27 Try.underlying5
  have hb := const_bytes w l n hn ((l.map bv).toArray.size, (l.map bv).toArray.size + 1)
  refine ⟨_, h, (Keeps.refl _ _).alloc _, hb.1, fun k e => ?_⟩
  simp only [Value.ownBlock, Option.some.injEq] at e
  subst e
  exact hb.2
set_option maxRecDepth 100000 in
set_option maxHeartbeats 8000000 in
theorem tries_walk (ca cb f : Int) (kv : Value) (kept : List Bool) (w : World) (hb1 : base0 = w.heap.size + 1) (hk : Hid (BoolsAt w kv kept)) (hko : Hid (0 < kept.length → ∀ k, kv.ownBlock = some k → k < w.heap.size)) (cnt : Nat → Nat) (hcl : Hid (∀ j, 1 ≤ cnt j ∧ cnt j ≤ 9)) (hcn : Hid (wrap64 (1 + wrap64 ((IntKind.u64.wrap ca).tmod 9)) = (cnt 0 : Int) ∧ wrap64 (1 + wrap64 ((IntKind.u64.wrap cb).tmod 9)) = (cnt 1 : Int))) :
    Calls Try.prog 7 #[.agg #[.int .i64 ca, .int .i64 cb], .int .i64 f, kv] w fun e w' => e = .returned (.bool true) ∧ Keeps (fun _ => False) w w' := by
  have hb0 := Lib.hid hb1
  clear hb1
  obtain ⟨i0, hi0, hi1', hi2', hi3⟩ := bytesAll
  obtain ⟨s0, hs0, hs1, hs2, hs3⟩ := strInfoK
  go_enter Try.func7, Try.ntmps7
  go_upto_region 1 with fail
  obtain ⟨w0, hw0⟩ : ∃ W, w.alloc (.cells #[.int .i64 ca, .int .i64 cb] 78) = W := ⟨_, rfl⟩
  rw [hw0]
  have hk0 : Hid (Keeps (fun _ => False) w w0) := Lib.hid (by rw [← hw0]; exact (Keeps.refl _ _).alloc _)
  obtain ⟨ba, hba⟩ : ∃ b, w.heap.size = b := ⟨_, rfl⟩
  have hA0 : Hid (w0.rangeAt ba 0 [.int .i64 ca, .int .i64 cb]) := Lib.hid (by rw [← hba, ← hw0]; exact fun j u hu => by have h := cells_new (w := w) rfl [.int .i64 ca, .int .i64 cb] 78 j u hu; rw [Addr.add_mid] at h; exact h)
  have ha0 : Hid (w0.heap.size = base0) := Lib.hid (by rw [← hw0, hb0.out]; simp)
  rw [hba]
  clear hw0
  have hnew := Lib.hid (new_js 42 w0 (by omega) (by omega) (by rw [ha0.out]; exact Nat.le_refl _))
  go_wp2_with fail
  refine hnew.out.mono ?_
  rintro e w1 ⟨b, bs, rfl, hD1, hk1⟩
  have hD1' := Lib.hid hD1
  have hk1' := Lib.hid hk1
  have hbg := Lib.hid (begin_js w1 b bs 42 (by omega) (by rw [← ha0.out]; exact hk1.size) hD1')
  clear hnew hD1 hk1
  go_wp2_with fail
  refine hbg.out.mono ?_
  rintro e w2 ⟨hk2, jb, ev, D, rfl, hjb, hDb, hDl, hJ2⟩
  have hk2' := Lib.hid (keepNo2 hk1'.out hk2 (by rw [ha0.out]; exact Nat.le_refl _))
  have hJ2' := Lib.hid hJ2
  have hDl' := Lib.hid hDl
  have hDb' := Lib.hid hDb
  have hst := Lib.hid (stays_no w2)
  clear hbg hk2 hJ2 hDl hjb hDb hk1' hD1'
  go_wp2_with fail
  refine hst.out.mono ?_
  rintro e w3 ⟨rfl, hk3⟩
  have hk3' := Lib.hid (hk2'.out.trans hk3)
  have hJ3 := Lib.hid (hJ2'.out.keep hk3)
  clear hst hk2' hJ2' hk3
  obtain ⟨w4, hcv, hk4, hb4, hn4⟩ := const_conv w3 firstB 5 rfl #[.int .u8 102, .int .u8 105, .int .u8 114, .int .u8 115, .int .u8 116] rfl
  have hk4' := Lib.hid (hk3'.out.trans hk4)
  have hJ4 := Lib.hid (hJ3.out.keep hk4)
  have hap := Lib.hid (append_js w1 w4 jb 42 1 0 ev [] D _ firstB hJ4 (Lib.hid hb4) (by decide) (Lib.hid hn4))
  have hcv' := hcv
  clear hk4 hb4 hn4 hJ3 hk3' hcv
  go_wp2_with fail
  refine hap.out.mono ?_
  rintro e w5 ⟨cc, ev', D', rfl, hk5, -, hDb5, ho⟩
  have hk5' : Hid (Keeps (fun _ => False) w0 w5) := Lib.hid (KeepJ.no hk4'.out hk5 (by rw [ha0.out]; exact Nat.le_refl _))
  have hcs : cc = 0 ∧ Hid (D'.b = b) ∧ Hid (JS w1 w5 jb 42 1 0 ev' [firstB] D') := by
    rcases ho with ⟨o1, o2, o3, o4⟩ | ⟨o1, o2, o3, o4, o5⟩ | ⟨o1, o2, o3, o4, o5⟩ | ⟨o1, o2, o3, o4, o5⟩
    · exact absurd (show allowedB firstB = true by decide) o2
    · exact absurd (show usedOf [] + takes firstB.length ≤ hz 42 by decide) o3
    · exact ⟨o1, Lib.hid (by rw [hDb5, hDb'.out]), Lib.hid o5⟩
    · rw [hDl'.out] at o4
      exact absurd o4 (by decide)
  obtain ⟨rfl, hDb6, hJ5⟩ := hcs
  clear ho hk5 hap hcv' hJ4 hk4' hDl' hDb' hDb5
  go_upto_region 5 with fail
  obtain ⟨w6, hw6⟩ : ∃ W, w5.alloc (.cells #[.slice none 0 0, .slice none 0 0] 79) = W := ⟨_, rfl⟩
  go_upto_region 6 with fail
  have hL6 : Hid (LSt w5 w6 w5.heap.size cnt 0 0 (fun _ => .slice none 0 0)) := Lib.hid (LSt.start (by rw [← hw6]; exact heap_alloc_last w5 _) (by rw [← hw6]; simp))
  have hk56 : Hid (Keeps (fun _ => False) w5 w6) := Lib.hid (by rw [← hw6]; exact (Keeps.refl _ _).alloc _)
  obtain ⟨gl, hgl⟩ : ∃ g, w5.heap.size = g := ⟨_, rfl⟩
  rw [hgl] at hL6 ⊢
  have hgl' := Lib.hid hgl
  have hc5 : Hid (∀ j, j < 2 → ∃ z, w5.cell? ⟨ba, j, none⟩ = some (.int .i64 z) ∧ wrap64 (1 + wrap64 ((IntKind.u64.wrap z).tmod 9)) = (cnt j : Int) ∧ ba < w5.heap.size) := Lib.hid (fun j hj => by
    have hlt : ba < w0.heap.size := World.block_lt_of_cell? w0 _ (hA0.out 0 _ rfl)
    obtain rfl | rfl : j = 0 ∨ j = 1 := by omega
    · exact ⟨ca, (hk5'.out.cell (p := ⟨ba, 0, none⟩) hlt id).trans (hA0.out 0 _ rfl), hcn.out.1, Nat.lt_of_lt_of_le hlt hk5'.out.size⟩
    · exact ⟨cb, (hk5'.out.cell (p := ⟨ba, 1, none⟩) hlt id).trans (hA0.out 1 _ rfl), hcn.out.2, Nat.lt_of_lt_of_le hlt hk5'.out.size⟩)
  clear hw6 hgl hA0
  go_wp2_with fail
  go_loopw [12, 13] (fun iv kv wr => ∃ (i : Nat) (V : Nat → Value), i ≤ 2 ∧ iv = .int .i64 i ∧ Hid (LSt w5 wr gl cnt i 0 V) ∧ Hid (Keeps (fun _ => False) w5 wr)) (fun iv _ _ => 2 - (intOf iv).toNat)
  case atStart => exact ⟨0, _, by omega, rfl, hL6, hk56⟩
  case round =>
    obtain ⟨i, V, hi, rfl, hL, hK⟩ := hrel
    clear hL6 hk56
    by_cases hi2 : i < 2
    · obtain ⟨z, hz0, hz1, hbl⟩ := hc5.out i hi2
      have l1 : (i : Int) < 2 := by omega
      have l0 : (0 : Int) ≤ (i : Int) := by omega
      have hz' := Lib.hid hz0
      have hz2 := Lib.hid hz1
      have hbl' := Lib.hid hbl
      clear hz0 hz1 hbl
      go_wp2_with fail
      go_loopw [13] (fun kv wr => ∃ (k : Nat) (V : Nat → Value), k ≤ cnt i ∧ kv = .int .i64 k ∧ Hid (LSt w5 wr gl cnt i k V) ∧ Hid (Keeps (fun _ => False) w5 wr)) (fun kv _ => cnt i - (intOf kv).toNat)
      case atStart => exact ⟨0, V, by omega, rfl, hL, hK⟩
      case round =>
        clear hL hK V
        obtain ⟨k, V, hkc, rfl, hL, hK⟩ := hrel
        have hci : wr.cell? ⟨ba, i, none⟩ = some (.int .i64 z) := (hK.out.cell (p := ⟨ba, i, none⟩) hbl'.out id).trans hz'.out
        have hzi := hz2.out
        by_cases hk2 : k < cnt i
        · have l2 : (k : Int) < (cnt i : Int) := by omega
          have hc9 := (hcl.out i).2
          have hb1 : (i : Int) % 256 = (i : Int) := by omega
          have hb2 : (k : Int) % 256 = (k : Int) := by omega
          have hcg := hL.out.cell i hi2
          obtain ⟨pl, cl, hVi⟩ : ∃ p c, V i = .slice p (tents i (cn cnt i k i)).length c := (hL.out.own i hi2).slice
          have hln : (tents i (cn cnt i k i)).length = k := by rw [tents_len]; unfold cn; rw [if_neg (by omega), if_pos rfl]
          rw [hln] at hVi
          rw [hVi] at hcg
          obtain ⟨vs, hvs, hOv, hvb⟩ := hL.out.own i hi2
          rw [hln] at hvs
          rw [hVi] at hOv
          have hkb : Keeps (fun _ => False) wr ((wr.alloc (.cells #[.int .u8 i, .int .u8 k, .int .u8 120] 5)).alloc (.cells #[.slice (some ⟨wr.heap.size, 0, none⟩) 3 3] 27)) := ((Keeps.refl _ _).alloc _).alloc _
          have hOk := Lib.hid (hOv.keep hkb (fun _ _ f => f))
          have hvs' := Lib.hid hvs
          have hvb' := Lib.hid hvb
          have hkb' := Lib.hid hkb
          have hVi' := Lib.hid hVi
          have hln' := Lib.hid hln
          clear hvs hvb hOv hkb hVi hln
          go_upto_region 12 with fail
          clear hci hzi
          go_wp2_with ((with_reducible refine at_slot 71 ?_); go_must (refine wpList_append_r rfl (.tmp 64) (.tmp 70) 63 27 rfl i0 _ 24 Try.underlying63 hi0 hi1' hi2' hi3 rfl (by decide) (by decide) vv_len w5 _ k vs hvs'.out rfl hOk.out _ rfl (.slice (some ⟨wr.heap.size, 0, none⟩) 3 3) (cells_new (by simp) [.slice (some ⟨wr.heap.size, 0, none⟩) 3 3] _) vv_one (by omega) ?_); intro q8 d8 w8 hO8 hg8; have hgr := Lib.hid (hL.out.grown hi2 hkb'.out (by rw [hVi'.out]; exact hg8.out)); have c8 : w8.cell? ⟨gl, i, none⟩ = some (.slice pl k cl) := (cell_two hgr.out.1 hi2).trans (by rw [hVi'.out]); have f8 : w8.frozen? ⟨gl, i, none⟩ = false := fr_two hgr.out.1 i)
          have hcn2 : cn cnt i k i = k := by unfold cn; rw [if_neg (by omega), if_pos rfl]
          have hnb : OwnB w5 ((wr.alloc (.cells #[.int .u8 i, .int .u8 k, .int .u8 120] 5)).alloc (.cells #[.slice (some ⟨wr.heap.size, 0, none⟩) 3 3] 27)) (.slice (some ⟨wr.heap.size, 0, none⟩) 3 3) (tent i k) := by
            have h1 := OwnB.new w5 wr hK.out.size (tent i k) (n := 3) rfl (by unfold maxLen; omega)
            have e1 : ((tent i k).map bv).toArray = #[.int .u8 i, .int .u8 k, .int .u8 120] := by
              unfold tent bv
              simp [Nat.mod_eq_of_lt (show i < 256 by omega), Nat.mod_eq_of_lt (show k < 256 by omega)]
            rw [e1] at h1
            exact h1.keep ((Keeps.refl _ _).alloc _) (fun _ _ f => f)
          have hE8 := OwnE.snoc (L := tents i k) (l := tent i k) (by rw [hvs'.out, tents_len]) hOk.out (fun a u z c1 c2 => (hvb'.out a u z c1 (by rw [hcn2]; exact c2)).keep hkb'.out (fun _ _ f => f)) hnb hO8.out hg8.out
          rw [← tents_snoc] at hE8
          have hX := Lib.hid (hL.out.put hi2 hkb'.out (by rw [hVi'.out]; exact hg8.out) hE8)
          have hK8 := (OwnR.keeps hOk.out (hK.out.trans hkb'.out) hg8.out).setCell (p := ⟨gl, i, none⟩) (.inr (by rw [hgl'.out]; exact Nat.le_refl _)) (.slice q8 (k + 1) d8)
          exact ⟨⟨k + 1, _, by omega, by go_num, hX, Lib.hid hK8⟩, by simp [intOf]; omega⟩
        · have l2 : ¬ ((k : Int) < (cnt i : Int)) := by omega
          have hkc2 : k = cnt i := by omega
          have hLn := Lib.hid (hL.out.next hkc2)
          clear hL
          go_wp2_with fail
          exact ⟨⟨i + 1, V, by omega, by go_num, hLn, hK⟩, by simp [intOf]; omega⟩
    · have hi3' : i = 2 := by omega
      subst hi3'
      have hbb := hDb6.out
      subst hbb
      have hJ := Lib.hid (hJ5.out.keep hK.out)
      have hkr := Lib.hid (hk5'.out.trans hK.out)
      clear hJ5 hK hk5' hc5
      have hff := umod f 21 (by decide) (by decide)
      obtain ⟨S, hS⟩ : ∃ S, ((f % 18446744073709551616) % 21).toNat = S := ⟨_, rfl⟩
      rw [hS] at hff
      have hS1 := hff.1
      have hS2 : S ≤ 20 := by have := hff.2; omega
      have har := Lib.hid (dk_arm D' wr S hJ.out.j.dk (by omega) (by omega))
      clear hff hS
      go_wp2_with fail
      refine har.out.mono ?_
      rintro e wA ⟨rfl, hDA, hkA⟩
      have hJA := Lib.hid (hJ.out.arm S hDA hkA)
      have hLA := Lib.hid (hL.out.keepD hkA)
      have hkA' := Lib.hid (keepNo2 hkr.out hkA (by rw [ha0.out]; exact Nat.le_refl _))
      clear har hDA hkA hJ hL hkr hS1
      have hc0 := hLA.out.cell 0 (by omega)
      have hu0 : cn cnt 2 0 0 = cnt 0 := by unfold cn; rw [if_pos (by omega)]
      have hu1 : cn cnt 2 0 1 = cnt 1 := by unfold cn; rw [if_pos (by omega)]
      have hE0 := Lib.hid ((hLA.out.own 0 (by omega)).t)
      rw [hu0] at hE0
      have hcl0 := hcl.out 0
      have hcl1 := hcl.out 1
      have hH : hz 42 = 20 := by decide
      have hcp := Lib.hid (compact_js w1 wA jb 42 1 0 ev' [firstB] _ (V 0) (tents 0 (cnt 0)) hJA hE0 (Lib.hid (fun l hl => by rw [tents_mem hl]; omega)) (by rw [tents_len]; omega) (by omega))
      obtain ⟨pv, cv, hV0⟩ := hE0.out.slice
      rw [tents_len] at hV0
      rw [hV0] at hcp hc0
      clear hE0
      go_wp2_with fail
      refine hcp.out.mono ?_
      rintro e wB ⟨cc, evB, DB, rfl, hkB, hkB2, ⟨hDB, ho⟩, h20⟩
      obtain ⟨rfl, hjd⟩ := h20 (show (0 : Int) ≤ (S : Int) by omega) (show (S : Int) ≤ (hz 42 : Nat) by rw [hH]; omega) (tents_all _ _) (by rw [tents_used, hH]; omega)
      have hDBk : Hid (DB.b = D'.b ∧ DB.n = 42 ∧ DkAt DB wB ∧ ∀ kept, Quiet (DB.crash kept) ∧ (DB.crash kept).left = -1 ∧ JD (DB.crash kept).la 42 1 0 [firstB]) := Lib.hid (by
        rcases ho with ⟨o1, o2, o3, o4⟩ | ⟨o1, o2, o3, o4, o5⟩ | ⟨o1, o2, o3, o4, o5⟩ | ⟨o1, o2, o3, o4, o5, o6, o7⟩
        · cases o1
        · cases o1
        · cases o1
        · exact ⟨hDB, o5, o6, fun kp => ⟨(o7 kp).1, (o7 kp).2.1, hjd kp⟩⟩)
      have hLB := Lib.hid (hLA.out.keepC hJA.out.j.head hkB2)
      have hkB' := Lib.hid (KeepJ.no hkA'.out hkB (by rw [ha0.out]; exact Nat.le_refl _))
      clear ho hcp hDB hjd hkB hkB2 hLA hJA hkA' hc0 h20
      have hkept : Hid (BoolsAt wB kv kept) := Lib.hid (hk.out.keep (hk0.out.trans hkB'.out))
      have hcr := Lib.hid (dk_crash DB wB kv kept hDBk.out.2.2.1 hkept.out (fun h0 k e => by have := hko.out h0 k e; have := hb0.out; omega))
      rw [hDBk.out.1] at hcr
      go_wp2_with fail
      refine hcr.out.mono ?_
      rintro e wC ⟨rfl, hDC, hkC⟩
      have hkC' := Lib.hid (keepNo2 hkB'.out hkC (by rw [ha0.out]; exact Nat.le_refl _))
      have hLC := Lib.hid (hLB.out.keepD hkC)
      have hop := Lib.hid (open_js wC 42 1 0 [firstB] (DB.crash kept) (by rw [← ha0.out]; exact hkC'.out.size) (Lib.hid hDC) (Lib.hid (hDBk.out.2.2.2 kept).1) (Lib.hid (hDBk.out.2.2.2 kept).2.2) (Lib.hid hDBk.out.2.1))
      have hcb : (DB.crash kept).b = D'.b := hDBk.out.1
      rw [hcb] at hop
      have hcl7 : Hid ((DB.crash kept).left = -1) := Lib.hid (hDBk.out.2.2.2 kept).2.1
      generalize hDCe : DB.crash kept = DC at hop hcl7 hcb
      have hcb' := Lib.hid hcb
      clear hcr hkept hLB hkB' hDC hkC hDBk hDCe hcb
      go_wp2_with fail
      refine hop.out.mono ?_
      rintro e wD ⟨hkD, kb, evD, rfl, hkb, hJD⟩
      have hJD' := Lib.hid hJD
      have hkD' := Lib.hid (keepNo2 hkC'.out hkD (by rw [ha0.out]; exact Nat.le_refl _))
      have hLD := Lib.hid (hLC.out.keepD hkD)
      have hAll := Lib.hid (all_js wC wD kb 42 1 0 evD [firstB] DC hJD')
      clear hop hkD hJD hkC' hLC hkb
      go_wp2_with fail
      refine hAll.out.mono ?_
      rintro e wE ⟨pE, cE, rfl, hEE, hkE⟩
      have htx := Lib.hid (texts_any _ [firstB] wE (Lib.hid hEE.at) (by decide) (Lib.hid (by decide)))
      have hJE := Lib.hid (hJD'.out.keep hkE)
      have hLE := Lib.hid (hLD.out.keepF hkE (fun _ f => f.elim) id)
      have hkE' := Lib.hid (hkD'.out.trans hkE)
      clear hAll hEE hkE hJD' hLD hkD'
      go_wp2_with fail
      refine htx.out.mono ?_
      rintro e wF ⟨pF, cF, rfl, hOF, hkF⟩
      have hJF := Lib.hid (hJE.out.keep hkF)
      have hLF := Lib.hid (hLE.out.keepF hkF (fun _ f => f.elim) id)
      have hkF' := Lib.hid (hkE'.out.trans hkF)
      obtain ⟨gF, oF, rfl, hcF⟩ := SAt.get (hOF.at sv1_len) (k := 0) (x := firstB) rfl
      have hcF' : wF.cell? ⟨gF, oF, none⟩ = some (.string ⟨#[102, 105, 114, 115, 116]⟩) := hcF
      clear htx hOF hkF hJE hLE hkE' hcF
      rw [show [firstB].length = 1 from rfl]
      have hc1 := hLF.out.cell 1 (by omega)
      have hE1 := Lib.hid (hLF.out.own 1 (by omega))
      rw [hu1] at hE1
      obtain ⟨pw, cw, hV1⟩ := hE1.out.slice
      rw [tents_len] at hV1
      have hE1t := Lib.hid hE1.out.t
      rw [hV1] at hc1 hE1t
      have htx := Lib.hid (texts_any _ (tents 1 (cnt 1)) wF (Lib.hid hE1t.out.at) (by rw [tents_len]; omega) (Lib.hid (fun l hl => by rw [tents_mem hl]; omega)))
      rw [tents_len] at htx
      have hV1' := Lib.hid hV1
      clear hE1 hV1
      go_wp2_with fail
      refine htx.out.mono ?_
      rintro e wG ⟨pG, cG, rfl, hOG, hkG⟩
      have hJG := Lib.hid (hJF.out.keep hkG)
      have hLG := Lib.hid (hLF.out.keepF hkG (fun _ f => f.elim) id)
      have hkG' := Lib.hid (hkF'.out.trans hkG)
      have hOG' := Lib.hid (hOG.keep ((Keeps.refl (fun _ => False) wG).alloc (.cells #[.string ⟨#[109, 111, 114, 101]⟩] 9)) (fun _ _ f => f))
      have hkFG := Lib.hid hkG
      clear htx hOG hkG hJG hLG hkG' hcF' hE1t hc1
      go_wp2_with ((with_reducible refine at_slot 112 ?_); go_must (refine wpList_append_r rfl (.tmp 110) (.tmp 111) 47 9 rfl s0 _ 16 Try.underlying47 hs0 hs1 hs2 hs3 rfl (by decide) (by decide) sv1_len wF _ (cnt 1) (tents 1 (cnt 1)) (tents_len _ _) rfl hOG'.out _ rfl moreB (cells_new rfl [.string ⟨#[109, 111, 114, 101]⟩] _) (sv1_one moreB) (by omega) ?_); intro qH dH wH hOH hgH; have hkGH := Lib.hid (OwnR.keeps (w0 := wF) hOG'.out (hkFG.out.alloc _) hgH.out); have hLH := Lib.hid (hLF.out.keepF hkGH.out (fun _ f => f.elim) id); have hcH : wH.cell? ⟨gl, 1, none⟩ = some (.slice pw (cnt 1) cw) := (hLH.out.cell 1 (by omega)).trans (by rw [hV1'.out]))
      have hJH := Lib.hid (hJF.out.keep hkGH.out)
      have hkH := Lib.hid (hkF'.out.trans hkGH.out)
      have hEH := Lib.hid ((hLH.out.own 1 (by omega)).t)
      rw [hu1, hV1'.out] at hEH
      have hOH' : Hid (OwnR 9 1 sv1 wF wH (.slice qH (cnt 1 + 1) dH) (tents 1 (cnt 1) ++ [moreB])) := hOH
      have hcp := Lib.hid (compact_js wC wH kb 42 1 0 evD [firstB] DC _ (tents 1 (cnt 1)) hJH hEH (Lib.hid (fun l hl => by rw [tents_mem hl]; omega)) (by rw [tents_len]; omega) (by omega))
      clear hkGH hOH hgH hOG' hkFG hJF hLF hkF' hEH hLH hV1'
      refine hcp.out.mono ?_
      rintro e wI ⟨cc, evI, DI, rfl, hkI, -, ⟨hDI, ho⟩, -⟩
      have hcs : cc = 0 ∧ Hid (DI.b = D'.b) ∧ Hid (DI.left = -1) ∧ Hid (JS wC wI kb 42 2 1 evI (tents 1 (cnt 1)) DI) := by
        rcases ho with ⟨o1, o2, o3, o4⟩ | ⟨o1, o2, o3, o4, o5⟩ | ⟨o1, o2, o3, o4, o5⟩ | ⟨o1, o2, o3, o4, o5⟩
        · exact absurd (tents_all _ _) o2
        · exact absurd (show usedOf (tents 1 (cnt 1)) ≤ hz 42 by rw [tents_used, hH]; omega) o3
        · exact ⟨o1, Lib.hid (by rw [hDI, hcb'.out]), Lib.hid (by rw [o4 (by rw [hcl7.out]; decide)]; exact hcl7.out), Lib.hid o5⟩
        · rw [hcl7.out] at o4
          exact absurd o4 (by decide)
      obtain ⟨rfl, hDIb, hDIl, hJI⟩ := hcs
      have hkI' := Lib.hid (KeepJ.no hkH.out hkI (by rw [ha0.out]; exact Nat.le_refl _))
      have hOI := Lib.hid (hOH'.out.keep hkI (fun i e ⟨_, cs, t, r, a1, a2⟩ => by
        obtain ⟨cs2, r2, a3⟩ := hOH'.out.ty e
        rw [a1] at a3
        injection a3 with a3
        injection a3 with _ a3 _
        subst a3
        revert a2; decide))
      clear ho hcp hDI hkI hkH hJH hOH' hcH hcl7 hcb'
      obtain ⟨wJ, hcv, hkJ, hbJ, hnJ⟩ := const_conv wI moreB 4 rfl #[.int .u8 109, .int .u8 111, .int .u8 114, .int .u8 101] rfl
      have hJJ := Lib.hid (hJI.out.keep hkJ)
      have hkJ' := Lib.hid (hkI'.out.trans hkJ)
      have hOJ := Lib.hid (hOI.out.keep hkJ (fun _ _ f => f))
      have hap := Lib.hid (append_js wC wJ kb 42 2 1 evI (tents 1 (cnt 1)) DI _ moreB hJJ (Lib.hid hbJ) (by decide) (Lib.hid hnJ))
      have hcv' := hcv
      clear hcv hkJ hbJ hnJ hOI hkI' hJI
      go_wp2_with fail
      refine hap.out.mono ?_
      rintro e wK ⟨cc, evK, DK, rfl, hkK, -, hDK, ho⟩
      have hcs : cc = 0 ∧ Hid (DK.b = D'.b) ∧ Hid (JS wC wK kb 42 2 1 evK (tents 1 (cnt 1) ++ [moreB]) DK) := by
        rcases ho with ⟨o1, o2, o3, o4⟩ | ⟨o1, o2, o3, o4, o5⟩ | ⟨o1, o2, o3, o4, o5⟩ | ⟨o1, o2, o3, o4, o5⟩
        · exact absurd (show allowedB moreB = true by decide) o2
        · exact absurd (show usedOf (tents 1 (cnt 1)) + takes moreB.length ≤ hz 42 by
            rw [tents_used, hH]
            have : takes moreB.length = 1 := by decide
            omega) o3
        · exact ⟨o1, Lib.hid (by rw [hDK, hDIb.out]), Lib.hid o5⟩
        · rw [hDIl.out] at o4
          exact absurd o4 (by decide)
      obtain ⟨rfl, hDKb, hJK⟩ := hcs
      have hkK' := Lib.hid (KeepJ.no hkJ'.out hkK (by rw [ha0.out]; exact Nat.le_refl _))
      have hOK := Lib.hid (hOJ.out.keep hkK (fun i e ⟨_, cs, t, r, a1, a2⟩ => by
        obtain ⟨cs2, r2, a3⟩ := hOJ.out.ty e
        rw [a1] at a3
        injection a3 with a3
        injection a3 with _ a3 _
        subst a3
        revert a2; decide))
      clear ho hap hDK hkK hkJ' hOJ hJJ hcv' hDIb hDIl
      have hL1 : Hid (∀ l ∈ tents 1 (cnt 1) ++ [moreB], 1 ≤ l.length) := Lib.hid (fun l hl => by
        rcases List.mem_append.1 hl with h | h
        · rw [tents_mem h]; omega
        · rw [List.mem_singleton.1 h]; decide)
      have hLn : (tents 1 (cnt 1) ++ [moreB]).length = cnt 1 + 1 := by rw [List.length_append, tents_len]; rfl
      obtain ⟨LL, hLL⟩ : ∃ LL, tents 1 (cnt 1) ++ [moreB] = LL := ⟨_, rfl⟩
      rw [hLL] at hJK hOK hL1 hLn
      obtain ⟨N, hN⟩ : ∃ N, cnt 1 + 1 = N := ⟨_, rfl⟩
      rw [hN] at hLn hOK ⊢
      have hNl : N ≤ 10 := by omega
      have hLn' := Lib.hid hLn
      clear hLL hN hLn
      have hop := Lib.hid (open_js wK 42 2 1 LL DK (by rw [← ha0.out]; exact hkK'.out.size) (Lib.hid hJK.out.j.dk) (Lib.hid hJK.out.q) (Lib.hid hJK.out.jd) (Lib.hid hJK.out.n))
      rw [hDKb.out] at hop
      clear hJK
      go_wp2_with fail
      refine hop.out.mono ?_
      rintro e wL ⟨hkL, mb, evL, rfl, hmb, hJL⟩
      have hJL' := Lib.hid hJL
      have hkL' := Lib.hid (keepNo2 hkK'.out hkL (by rw [ha0.out]; exact Nat.le_refl _))
      have hOL := Lib.hid (hOK.out.keep hkL (fun i e ⟨_, cs, t, r, a1, a2⟩ => by
        obtain ⟨cs2, r2, a3⟩ := hOK.out.ty e
        rw [a1] at a3
        injection a3 with a3
        injection a3 with _ a3 _
        subst a3
        revert a2; decide))
      have hAll := Lib.hid (all_js wK wL mb 42 2 1 evL _ DK hJL')
      clear hop hkL hJL hkK' hOK hmb
      go_wp2_with fail
      refine hAll.out.mono ?_
      rintro e wM ⟨pM, cM, rfl, hEM, hkM⟩
      rw [hLn'.out] at hEM
      rw [hLn'.out]
      have htx := Lib.hid (texts_any _ LL wM (Lib.hid hEM.at) (by rw [hLn'.out]; omega) hL1)
      rw [hLn'.out] at htx
      have hkM' := Lib.hid (hkL'.out.trans hkM)
      have hOM := Lib.hid (hOL.out.keep hkM (fun _ _ f => f))
      clear hAll hEM hkM hkL' hOL hJL'
      go_wp2_with fail
      refine htx.out.mono ?_
      rintro e wN ⟨pN, cN, rfl, hON, hkN⟩
      have hkN' := Lib.hid (hkM'.out.trans hkN)
      have hOM' := Lib.hid (hOM.out.keep hkN (fun _ _ f => f))
      have hsm := Lib.hid (rsame_any _ _ _ _ wN (Lib.hid (hON.at sv1_len)) (Lib.hid (hOM'.out.at sv1_len)) (by rw [hLn'.out]; omega) (by rw [hLn'.out]; omega))
      rw [beq_self_eq_true] at hsm
      clear htx hON hkN hkM' hOM hOM'
      go_wp2_with fail
      refine hsm.out.mono ?_
      rintro e wO ⟨rfl, hkO⟩
      have hkO' := Lib.hid (hk0.out.trans (hkN'.out.trans hkO))
      clear hsm hkO hkN'
      go_wp2_with fail
      go_ret
      exact ⟨rfl, hkO'.out⟩
end
end Go.Proofs.Ytcmpbablmofofaa
