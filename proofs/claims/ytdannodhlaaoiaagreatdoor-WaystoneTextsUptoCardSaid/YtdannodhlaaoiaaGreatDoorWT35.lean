/- leftover. -/
import Derived.Test.YtdannodhlaaoiaaGreatDoorWT34
set_option linter.unusedVariables false
set_option linter.unusedSimpArgs false
set_option linter.unusedVariables false
set_option linter.unusedSimpArgs false
namespace Go.Proofs.YtdannodhlaaoiaaGreatDoor
open Go.RowKit
section
variable [Inhabited BaseN]

def hsz (D : Dk) : Nat := (D.n - 2) / 2
def leftR (D : Dk) (gen half at_ place : Nat) : Bool × Int :=
  if hsz D ≤ at_ then (false, 0) else if D.on = false then (false, 2) else ((D.la (2 + half * hsz D + at_)).take 13 == leadB gen place, 0)
end
theorem load_dskp (w : World) (b o : Nat) (v : Value) (h : w.cell? ⟨b, o, none⟩ = some v) : (loadVar 34 ⟨b, o, none⟩).run Tryz.prog w = .ok v w := by simp [go_sem, h]
theorem load_u64 (w : World) (b o : Nat) (v : Value) (h : w.cell? ⟨b, o, none⟩ = some v) : (loadVar 88 ⟨b, o, none⟩).run Tryz.prog w = .ok v w := by simp [go_sem, h]
theorem JHead.keep {w w' : World} {jb db gen half : Nat} {ev : Value} {used : Nat} {ended : Bool} (h : JHead w jb db gen half ev used ended) {F : Nat → Prop} (k : Keeps F w w') (hF : ¬ F jb) : JHead w' jb db gen half ev used ended :=
  ⟨by rw [k.block jb (lt_of_block h.hd) hF]; exact h.hd⟩
section
variable [Inhabited BaseN]
theorem JHead.noD {w : World} {jb db gen half : Nat} {ev : Value} {used : Nat} {ended : Bool} (h : JHead w jb db gen half ev used ended) : ¬ DTy w jb := fun ⟨_, cs, t, r, h1, h2⟩ => by
  rw [h.hd] at h1
  injection h1 with h1
  injection h1 with _ h1 _
  subst h1
  revert h2; decide
theorem JHead.keepD {w w' : World} {jb db gen half : Nat} {ev : Value} {used : Nat} {ended : Bool} (h : JHead w jb db gen half ev used ended) (k : KeepD w w') : JHead w' jb db gen half ev used ended := h.keep k h.noD
set_option maxRecDepth 100000 in
set_option maxHeartbeats 4000000 in
theorem leftover_any (jb gen half : Nat) (ev : Value) (used : Nat) (ended : Bool) (D : Dk) (at_ place : Nat) (w : World) (hJ : Hid (JHead w jb D.b gen half ev used ended)) (hD : Hid (DkAt D w)) (h4 : 4 ≤ D.n) (hh : half ≤ 1) (hat : at_ ≤ 10000) (hg : gen < 18446744073709551616) (hp : place < 4294967296) :
    Calls Tryz.prog 76 #[.pointer (some ⟨jb, 0, none⟩), .int .i64 at_, .int .i64 place] w fun e w' => e = .returned (.tuple #[.bool (leftR D gen half at_ place).1, .int .i64 (leftR D gen half at_ place).2]) ∧ Keeps (fun _ => False) w w' := by
  have hn := hD.out.n1.2
  have c0 := hJ.out.c0
  have hs := Lib.hid (halfSize_any _ D w hD.out.own hn h4)
  obtain ⟨H, hH⟩ : ∃ H, (D.n - 2) / 2 = H := ⟨_, rfl⟩
  rw [hH] at hs
  have hHl : H ≤ 511 := by omega
  have hH2 : 2 + 2 * H ≤ D.n := by omega
  have hHd : Hid (hsz D = H) := Lib.hid hH
  clear hH
  go_enter Tryz.func76, Tryz.ntmps76
  go_wp2_with fail
  refine hs.out.mono ?_
  rintro e w1 ⟨rfl, rfl⟩
  by_cases hge : H ≤ at_
  · have l1 : (H : Int) ≤ (at_ : Int) := by omega
    have hres : Hid (leftR D gen half at_ place = (false, 0)) := Lib.hid (by unfold leftR; rw [hHd.out, if_pos hge])
    go_wp2_with fail
    go_ret2
    exact ⟨by rw [hres.out]; rfl, Keeps.refl _ _⟩
  · have l1 : ¬ ((H : Int) ≤ (at_ : Int)) := by omega
    have hlt : at_ < H := by omega
    clear hs hge
    have c2 := hJ.out.c2
    have c1 := hJ.out.c1
    have hjl : Hid (jb < w.heap.size) := Lib.hid (lt_of_block hJ.out.hd)
    obtain ⟨I, hI⟩ : ∃ I, 2 + half * H + at_ = I := ⟨_, rfl⟩
    have hIl : I < D.n := by
      have : half * H ≤ 1 * H := Nat.mul_le_mul_right H hh
      omega
    have hz : Hid (2 + half * H + at_ = I) := Lib.hid hI
    have hon := D.on
    have e15 : IntKind.i64.wrap (((2 + half * H : Nat) : Int) + (at_ : Int)) = (I : Int) := by rw [IntWalk.i64_in _ (by omega)]; omega
    obtain ⟨S, hS⟩ : ∃ S, 2 + half * H = S := ⟨_, rfl⟩
    rw [hS] at e15
    have hSl : S + at_ = I := by omega
    have hstart : Hid (∀ W, Keeps (fun _ => False) w W → Calls Tryz.prog 77 #[.pointer (some ⟨D.b, 0, none⟩), .int .i64 half] W fun e w' => e = .returned (.int .i64 (S : Nat)) ∧ W = w') := Lib.hid (fun W k => by
      have h := halfStart_any _ D half hh W (hD.out.keep k).own hn h4
      have h2 : 2 + half * ((D.n - 2) / 2) = S := by rw [← hS, ← hHd.out]; rfl
      rw [h2] at h; exact h)
    clear hS hI
    go_upto_region 3 with fail
    refine wp_region_noPanic ?_
    refine wp_region_held_drew (S := (fun W => Keeps (fun _ => False) w W)) (by kernel_rfl) (((Keeps.refl _ _).drew)) (fun hHeld => ?_)
    refine tk 0 rfl ?_
    refine tk 1 rfl ?_
    refine tk 2 rfl ?_
    refine tkL 3 rfl (yieldsIf_load_cell (by rfl) 34 (.tmp 20) rfl jb 0 rfl _ (fun _ s => (s.cell (p := ⟨jb, 0, none⟩) hjl.out id).trans c0) (fun w s => load_dskp w _ _ _ s)) ?_
    refine tk 4 rfl ?_
    refine tk 5 rfl ?_
    refine tk 6 rfl ?_
    refine tkL 7 rfl (yieldsIf_load_cell (by rfl) 34 (.tmp 24) rfl jb 0 rfl _ (fun _ s => (s.cell (p := ⟨jb, 0, none⟩) hjl.out id).trans c0) (fun w s => load_dskp w _ _ _ s)) ?_
    refine tk 8 rfl ?_
    refine tk 9 rfl ?_
    refine tk 10 rfl ?_
    refine tk 11 rfl ?_
    refine tkL 12 rfl (yieldsIf_load_cell (by rfl) 3 (.tmp 29) rfl jb 2 rfl _ (fun _ s => (s.cell (p := ⟨jb, 2, none⟩) hjl.out id).trans c2) (fun w s => load_int w _ _ _ s)) ?_
    refine tk 14 rfl ?_
    refine stepL 13 rfl (by kernel_rfl) (fun K hK => ?_)
    go_simp
    (refine (hstart.out _ hHeld).mono ?_; rintro e w6 ⟨rfl, rfl⟩)
    go_wp2_with fail
    refine hK.out _ _ (hHeld) (fun hHeld => ?_)
    clear hK K
    try simp only [Act.put, sA, sZ, sS]
    refine tk 15 rfl ?_
    cases hon2 : D.on with
    | false =>
      have hrd : D.read (I : Int) = 2 := by unfold Dk.read; rw [hon2, if_pos rfl]
      have hres : Hid (leftR D gen half at_ place = (false, 2)) := Lib.hid (by unfold leftR; rw [hHd.out, if_neg (by omega), hon2, if_pos rfl])
      have hR := Lib.hid (fun W (k : Keeps (fun _ => False) w W) => own_read_bad _ D W (I : Int) (hD.out.keep k).own (by rw [hrd]; decide))
      rw [hrd] at hR
      clear hrd
      refine stepL 16 rfl (by kernel_rfl) (fun K hK => ?_)
      go_simp
      (refine (hR.out _ hHeld).mono ?_; rintro e w6 ⟨rfl, rfl⟩)
      go_wp2_with fail
      refine hK.out _ _ (hHeld) (fun hHeld => ?_)
      clear hK K
      try simp only [Act.put, sA, sZ, sS]
      refine tk 17 rfl ?_
      refine tk 18 rfl ?_
      refine tk 19 rfl ?_
      refine tk 20 rfl ?_
      refine tk 21 rfl ?_
      refine wpAnyH_done (by kernel_rfl) (NoPanic.normal ?_) _
      have hK := Lib.hid hHeld
      clear hHeld hR
      go_wp2_with fail
      go_ret2
      exact ⟨by rw [hres.out]; rfl, hK.out⟩
    | true =>
      have hR := Lib.hid (fun W (k : Keeps (fun _ => False) w W) => own_read_yes _ D W I (hD.out.keep k).own hon2 hIl)
      obtain ⟨L, hL⟩ : ∃ L, D.la I = L := ⟨_, rfl⟩
      have hLl : L.length = 64 := by
        obtain ⟨v, hm, -⟩ := hD.out
        rw [← hL]; exact hm.secs.lla I hIl
      have hres : Hid (leftR D gen half at_ place = (L.take 13 == leadB gen place, 0)) := Lib.hid (by unfold leftR; rw [hHd.out, if_neg (by omega), hon2, if_neg (by decide), hz.out, hL])
      unfold ReadOk at hR
      rw [hL] at hR
      clear hL
      refine stepL 16 rfl (by kernel_rfl) (fun K hK => ?_)
      go_simp
      (refine (hR.out _ hHeld).mono ?_; rintro e w6 ⟨rfl, rfl⟩)
      go_wp2_with fail
      refine hK.out _ _ ((hHeld.alloc _)) (fun hHeld => ?_)
      clear hK K
      try simp only [Act.put, sA, sZ, sS]
      refine tk 17 rfl ?_
      refine tk 18 rfl ?_
      refine tk 19 rfl ?_
      refine tk 20 rfl ?_
      refine tk 21 rfl ?_
      refine wpAnyH_done (by kernel_rfl) (NoPanic.normal ?_) _
      have hK := Lib.hid hHeld
      have hRg : Hid (((w.alloc (.cells (L.map bv).toArray 137)).drew).rangeAt w.heap.size 0 (L.map bv)) := Lib.hid (fun j u hu => by
        have h := cells_new (n := w.heap.size) rfl (L.map bv) 137 j u hu
        rw [Addr.add_mid] at h; exact h)
      have c1' := (hHeld.cell (p := ⟨jb, 1, none⟩) hjl.out id).trans c1
      generalize hgb : w.heap.size = ab at hRg ⊢
      generalize hgw : (w.alloc (.cells (L.map bv).toArray 137)).drew = W2 at hRg hK c1' ⊢
      clear hHeld hR hgw hgb c0 c1 c2
      go_wp2_with fail
      refine (lead_any gen place hg hp _).mono ?_
      rintro e w3 ⟨lb, rfl, hlb, hB3, hK3⟩
      have hP : Hid (Calls Tryz.prog 106 #[.slice (some ⟨ab, 0, none⟩) 64 64, .slice (some ⟨lb, 0, none⟩) (leadB gen place).length (leadB gen place).length] w3 fun e w' => e = .returned (.bool (L.take 13 == leadB gen place)) ∧ w3 = w') := Lib.hid (by
        have h := bytesHasPrefix_any ab 0 64 (.slice (some ⟨lb, 0, none⟩) (leadB gen place).length (leadB gen place).length) L (leadB gen place) w3 (hK3.rangeAt hRg.out id) (by omega) (BytesAt.of rfl (Nat.le_refl _) hB3.range) (by rw [leadB_len]; omega)
        rw [hLl] at h
        rw [leadB_len] at h ⊢
        exact h)
      have hK4 := Lib.hid (hK.out.trans hK3)
      clear hB3 hK3 hK hRg c1'
      go_wp2_with fail
      refine hP.out.mono ?_
      rintro e w4 ⟨rfl, rfl⟩
      go_wp2_with fail
      go_ret2
      exact ⟨by rw [hres.out]; rfl, hK4.out⟩
end
end Go.Proofs.YtdannodhlaaoiaaGreatDoor
/- Entries in memory; readFrames. -/
set_option linter.unusedVariables false
set_option linter.unusedSimpArgs false
namespace Go.Proofs.YtdannodhlaaoiaaGreatDoor
open Go.RowKit
section
variable [Inhabited BaseN]

def vv (v : Value) : List Value := [v]
end
theorem vv_len (v : Value) : (vv v).length = 1 := rfl
section
variable [Inhabited BaseN]
/-- entries of the call's own -/
def OwnE (w0 w : World) (ev : Value) (L : List (List UInt8)) : Prop := ∃ vs : List Value, vs.length = L.length ∧ OwnR 31 1 vv w0 w ev vs ∧ ∀ (i : Nat) (v : Value) (l : List UInt8), vs[i]? = some v → L[i]? = some l → OwnB w0 w v l
end
theorem OwnE.nil (w0 w : World) (h : w0.heap.size ≤ w.heap.size) : OwnE w0 w (.slice none 0 0) [] := ⟨[], rfl, OwnR.nil _ _ h, fun i v l h => by simp at h⟩
theorem OwnE.slice {w0 w : World} {ev : Value} {L : List (List UInt8)} (h : OwnE w0 w ev L) : ∃ p c, ev = .slice p L.length c := by
  obtain ⟨vs, h1, h2, -⟩ := h
  obtain ⟨p, c, e⟩ := h2.slice
  exact ⟨p, c, by rw [← h1]; exact e⟩
theorem OwnE.older {w0 w1 w : World} {ev : Value} {L : List (List UInt8)} (h : OwnE w1 w ev L) (hs : w0.heap.size ≤ w1.heap.size) : OwnE w0 w ev L := by
  obtain ⟨vs, h1, h2, h3⟩ := h
  exact ⟨vs, h1, h2.older hs, fun i v l a b => (h3 i v l a b).older hs⟩
theorem OwnB.ty {w0 w : World} {v : Value} {x : List UInt8} (h : OwnB w0 w v x) {k : Nat} (e : v.ownBlock = some k) : ∃ cs r, w.heap[k]? = some (.cells cs 5 r) := by
  rcases h.1.2 with ⟨e1, -⟩ | ⟨g, cap, cur, e1, -, hg, -⟩
  · rw [e1] at e; simp [Value.ownBlock] at e
  · rw [e1] at e
    simp only [Value.ownBlock, Option.some.injEq] at e
    subst e
    exact ⟨_, _, hg⟩
theorem OwnR.ty {α : Type} {t sz : Nat} {cv : α → List Value} {w0 w : World} {v : Value} {xs : List α} (h : OwnR t sz cv w0 w v xs) {k : Nat} (e : v.ownBlock = some k) : ∃ cs r, w.heap[k]? = some (.cells cs t r) := by
  rcases h.1.2 with ⟨e1, -⟩ | ⟨g, cap, cur, e1, -, hg, -⟩
  · rw [e1] at e; simp [Value.ownBlock] at e
  · rw [e1] at e
    simp only [Value.ownBlock, Option.some.injEq] at e
    subst e
    exact ⟨_, _, hg⟩
/-- what turns only blocks of other types than entries' -/
theorem OwnE.keepF {F : Nat → Prop} {w0 w w' : World} {ev : Value} {L : List (List UInt8)} (h : OwnE w0 w ev L) (k : Keeps F w w') (hF : ∀ i, F i → ¬ ∃ cs t r, w.heap[i]? = some (.cells cs t r) ∧ (t = 31 ∨ t = 5)) : OwnE w0 w' ev L := by
  obtain ⟨vs, h1, h2, h3⟩ := h
  refine ⟨vs, h1, h2.keep k (fun i e f => ?_), fun i v l a b => (h3 i v l a b).keep k (fun j e f => ?_)⟩
  · obtain ⟨cs, r, h4⟩ := h2.ty e
    exact hF i f ⟨cs, _, r, h4, .inl rfl⟩
  · obtain ⟨cs, r, h4⟩ := (h3 i v l a b).ty e
    exact hF j f ⟨cs, _, r, h4, .inr rfl⟩
theorem OwnE.keep {w0 w w' : World} {ev : Value} {L : List (List UInt8)} (h : OwnE w0 w ev L) (k : Keeps (fun _ => False) w w') : OwnE w0 w' ev L := h.keepF k (fun i f => f.elim)
section
variable [Inhabited BaseN]
theorem OwnE.keepD {w0 w w' : World} {ev : Value} {L : List (List UInt8)} (h : OwnE w0 w ev L) (k : KeepD w w') : OwnE w0 w' ev L := h.keepF k (fun i ⟨_, cs, t, r, a, b⟩ ⟨cs2, t2, r2, c, d⟩ => by
  rw [a] at c
  injection c with c
  injection c with _ c _
  subst c
  revert b d
  rintro (rfl | rfl | rfl) (d | d) <;> revert d <;> decide)
end
/-- one more -/
theorem OwnE.snoc {w0 w w' : World} {ev : Value} {L : List (List UInt8)} {p : Option Addr} {n c : Nat} {v : Value} {l : List UInt8} {vs : List Value} (h1 : vs.length = L.length) (h2 : OwnR 31 1 vv w0 w ev vs) (h3 : ∀ (i : Nat) (v : Value) (l : List UInt8), vs[i]? = some v → L[i]? = some l → OwnB w0 w v l) (hv : OwnB w0 w v l)
    (ho : OwnR 31 1 vv w0 w' (.slice p n c) (vs ++ [v])) (g : Grown w ev p n c w') : OwnE w0 w' (.slice p n c) (L ++ [l]) := by
  have hk : ∀ {u : Value} {x : List UInt8}, OwnB w0 w u x → OwnB w0 w' u x := fun hu => hu.keep g.k (fun i e e2 => by
    obtain ⟨cs, r, a⟩ := hu.ty e
    obtain ⟨cs2, r2, b⟩ := h2.ty e2
    rw [a] at b
    injection b with b
    injection b with _ b _
    revert b; decide)
  refine ⟨vs ++ [v], by simp [h1], ho, fun i u x hu hx => ?_⟩
  by_cases hi : i < vs.length
  · rw [List.getElem?_append_left hi] at hu
    rw [List.getElem?_append_left (by omega)] at hx
    exact hk (h3 i u x hu hx)
  · rw [List.getElem?_append_right (by omega)] at hu hx
    have hi2 : i - vs.length = 0 := by have := (List.getElem?_eq_some_iff.1 hu).1; simp at this; omega
    rw [hi2] at hu
    rw [← h1, hi2] at hx
    injection hu with hu; injection hx with hx
    subst hu; subst hx
    exact hk hv
theorem bytesAll : ∃ i, Tryz.prog.info? 31 = some i ∧ i.zero = some (.slice none 0 0) ∧ i.size = 1 ∧ i.bytes = 24 := by
  have h : (Tryz.prog.info? 31).map (fun i => (i.zero, i.size, i.bytes)) = some (some (.slice none 0 0), 1, 24) := by kernel_rfl
  obtain ⟨i, hi, e⟩ := Option.map_eq_some_iff.1 h
  injection e with e1 e; injection e with e2 e3
  exact ⟨i, hi, e1, e2, e3⟩
theorem vv_one {p : Option Addr} {n c : Nat} : ∀ u ∈ vv (.slice p n c), u.oneCell' = true := by intro u hu; simp [vv] at hu; subst hu; rfl
section
variable [Inhabited BaseN]
/-- the entries of a half's bytes -/
def framesOf : Nat → List UInt8 → Nat → Nat → List (List UInt8)
  | 0, _, _, _ => []
  | f + 1, x, gen, place => match frameOf x gen place with
    | none => []
    | some l => l :: framesOf f (x.drop (takes l.length * 64)) gen (place + 1)
end
theorem frameOf_len {x : List UInt8} {gen place : Nat} {l : List UInt8} (h : frameOf x gen place = some l) : takes l.length * 64 ≤ x.length ∧ 1 ≤ l.length ∧ l.length ≤ 8192 ∧ 64 ≤ x.length := by
  unfold frameOf at h
  simp only at h
  split at h
  · cases h
  · rename_i hb
    split at h
    · injection h with h
      have h1 : l.length = beVal ((x.drop 13).take 2) := by
        rw [← h, List.length_take, List.length_drop]
        have := takes_ge (beVal ((x.drop 13).take 2))
        omega
      rw [h1]; omega
    · cases h
theorem readFrame_b (p : Option Addr) (c : Nat) (x : List UInt8) (gen place : Nat) (hg : gen < 18446744073709551616) (hp : place < 4294967296) (w : World) (hr : BytesAt w (.slice p x.length c) x) (hx : x.length ≤ 1000000) (hcm : c ≤ 9223372036854775807) :
    Calls Tryz.prog 86 #[.slice p x.length c, .int .u64 gen, .int .i64 place] w (ReadF (frameOf x gen place) w) := by
  by_cases h64 : x.length < 64
  · have e : frameOf x gen place = none := by unfold frameOf; rw [if_pos (.inl h64)]
    rw [e]; exact readFrame_short _ _ _ h64 _ _ _
  · obtain ⟨g, o, rfl, hc, h2⟩ := hr.open (by omega)
    exact readFrame_any g o c x gen place hg hp w h2 hx hc hcm
end Go.Proofs.YtdannodhlaaoiaaGreatDoor
/- readFrames, clones, walked. -/
set_option linter.unusedVariables false
set_option linter.unusedSimpArgs false
namespace Go.Proofs.YtdannodhlaaoiaaGreatDoor
open Go.RowKit
section
variable [Inhabited BaseN]

end
theorem BytesAt.from {w : World} {g o n c : Nat} {x : List UInt8} (h : BytesAt w (.slice (some ⟨g, o, none⟩) n c) x) (k : Nat) (hk : k ≤ x.length) : BytesAt w (.slice (if c = k then some ⟨g, o, none⟩ else some ⟨g, o + k, none⟩) (x.length - k) (c - k)) (x.drop k) := by
  obtain ⟨p', c', e, -, hc, hr⟩ := h
  injection e with e1 e2 e3
  subst e1; subst e3
  refine ⟨_, c - k, by rw [List.length_drop], fun h0 => ?_, by rw [List.length_drop]; omega, fun h0 => ?_⟩
  · split at h0 <;> cases h0
  · rw [List.length_drop] at h0
    obtain ⟨g', o', e4, hra⟩ := hr (by omega)
    injection e4 with e4
    injection e4 with e5 e6
    subst e5; subst e6
    refine ⟨g, o + k, by rw [if_neg (by omega)], fun i u hu => ?_⟩
    rw [List.map_drop, List.getElem?_drop] at hu
    have := hra (k + i) u hu
    rw [← Nat.add_assoc] at this
    exact this
section
variable [Inhabited BaseN]
def EntsRes (L : List (List UInt8)) (w : World) (e : Ending) (w' : World) : Prop := ∃ p c, e = .returned (.slice p L.length c) ∧ OwnE w w' (.slice p L.length c) L ∧ Keeps (fun _ => False) w w'
end
set_option maxRecDepth 100000 in
set_option maxHeartbeats 4000000 in
theorem readFrames_any (v : Value) (x : List UInt8) (gen : Nat) (hg : gen < 18446744073709551616) (w : World) (hv : Hid (BytesAt w v x)) (hx : x.length ≤ 1000000) (hc : ∀ p n c, v = .slice p n c → c ≤ 9223372036854775807) :
    Calls Tryz.prog 50 #[v, .int .u64 gen] w (EntsRes (framesOf (x.length + 1) x gen 0) w) := by
  obtain ⟨p, c, rfl⟩ : ∃ p c, v = .slice p x.length c := by obtain ⟨p, c, e, -⟩ := hv.out; exact ⟨p, c, e⟩
  have hcm := hc p _ c rfl
  obtain ⟨i0, hi0, hi1, hi2, hi3⟩ := bytesAll
  clear hc
  go_enter Tryz.func50, Tryz.ntmps50
  go_wp2_with fail
  go_loopw [5, 0] (fun lv bv_ wr => ∃ (L : List (List UInt8)) (pl : Option Addr) (cl : Nat) (y : List UInt8) (py : Option Addr) (cy f : Nat), lv = .slice pl L.length cl ∧ bv_ = .slice py y.length cy ∧ y.length ≤ x.length ∧ cy ≤ 9223372036854775807 ∧ L.length * 64 + y.length ≤ x.length ∧ y.length < f ∧ Hid (L ++ framesOf f y gen L.length = framesOf (x.length + 1) x gen 0) ∧ Hid (BytesAt w bv_ y) ∧ Hid (OwnE w wr lv L) ∧ Hid (Keeps (fun _ => False) w wr)) (fun _ bv_ _ => match bv_ with | .slice _ n _ => n | _ => 0)
  case atStart => exact ⟨[], none, 0, x, p, c, x.length + 1, rfl, rfl, Nat.le_refl _, hcm, by simp, by omega, Lib.hid rfl, hv, Lib.hid (OwnE.nil _ _ (Nat.le_refl _)), Lib.hid (Keeps.refl _ _)⟩
  case round =>
    obtain ⟨L, pl, cl, y, py, cy, f, rfl, rfl, hyx, hcy, hLy, hyf, hL, hB, hE, hK⟩ := hrel
    obtain ⟨f, rfl⟩ : ∃ f', f = f' + 1 := ⟨f - 1, by omega⟩
    have hR := Lib.hid (readFrame_b py cy y gen L.length hg (by omega) wr (hB.out.keep hK.out) (by omega) hcy)
    obtain ⟨r, hr⟩ : ∃ r, frameOf y gen L.length = r := ⟨_, rfl⟩
    rw [hr] at hR
    have hr' := Lib.hid hr
    have hlen64 : L.length ≤ 1000000 := by omega
    clear hr
    go_wp2_with fail
    refine hR.out.mono ?_
    clear hR
    cases r with
    | none =>
      rintro e w2 ⟨k2, rfl⟩
      have hfin : Hid (L = framesOf (x.length + 1) x gen 0) := Lib.hid (by
        rw [← hL.out]
        have e : framesOf (f + 1) y gen L.length = [] := by unfold framesOf; rw [hr'.out]
        rw [e, List.append_nil])
      have hE2 := Lib.hid (hE.out.keep k2)
      have hK2 := Lib.hid (hK.out.trans k2)
      clear k2 hE hK hB hL
      go_wp2_with fail
      go_ret
      exact ⟨pl, cl, by rw [← hfin.out]; rfl, by rw [← hfin.out]; exact hE2.out, hK2.out⟩
    | some l =>
      rintro e w2 ⟨k2, v2, rfl, hO2⟩
      obtain ⟨q1, q2, q3, q4⟩ := frameOf_len hr'.out
      obtain ⟨pv, cv, rfl⟩ := hO2.slice
      have hO2' := Lib.hid (hO2.older (w0 := w) hK.out.size)
      have hE2 := Lib.hid (hE.out.keep k2)
      have hB2 := hB
      have hK2 := Lib.hid (hK.out.trans k2)
      clear k2 hO2 hE hK hB
      obtain ⟨vs, hvs, hOv, hvb⟩ := hE2.out
      have hvs' := Lib.hid hvs
      have hOv' := Lib.hid hOv
      have hvb' := Lib.hid hvb
      clear hvs hOv hvb
      obtain ⟨gy, oy, hpy, hcy2, -⟩ := hB2.out.open (by omega)
      subst hpy
      have hFr := Lib.hid (hB2.out.from (takes l.length * 64) q1)
      obtain ⟨T, hT⟩ : ∃ T, takes l.length = T := ⟨_, rfl⟩
      rw [hT] at hFr q1
      have hT1 : 1 ≤ T := by rw [← hT]; unfold takes; omega
      have hTk := Lib.hid (fun W => takes_any l.length (by omega) W)
      have hstep : Hid ((L ++ [l]) ++ framesOf f (y.drop (T * 64)) gen (L ++ [l]).length = framesOf (x.length + 1) x gen 0) := Lib.hid (by
        rw [← hL.out, List.append_assoc]
        congr 1
        have e : framesOf (f + 1) y gen L.length = l :: framesOf f (y.drop (T * 64)) gen (L.length + 1) := by
          show (match frameOf y gen L.length with | none => [] | some l => l :: framesOf f (y.drop (takes l.length * 64)) gen (L.length + 1)) = _
          rw [hr'.out]; simp only [hT]
        rw [e, List.length_append]; rfl)
      rw [hT] at hTk
      obtain ⟨pp, hpp⟩ : ∃ pp, (if cy = T * 64 then some (⟨gy, oy, none⟩ : Addr) else some (⟨gy, oy + T * 64, none⟩ : Addr)) = pp := ⟨_, rfl⟩
      rw [hpp] at hFr
      have hOk := Lib.hid (hOv'.out.keep ((Keeps.refl (fun _ => False) _).alloc (.cells #[.slice pv l.length cv] 31)) (fun _ _ f => f))
      have l1 : (0 : Int) ≤ (T : Int) * 64 := by omega
      have l2 : (T : Int) * 64 ≤ (cy : Int) := by omega
      have l3 : (T : Int) * 64 ≤ (y.length : Int) := by omega
      have l4 : ((T : Int) * 64).toNat = T * 64 := by omega
      have hvl : Hid (vs.length = L.length) := hvs'
      clear hT hL hr'
      go_wp2_with (first | ((with_reducible refine at_slot 22 ?_); go_must (refine wpList_append_r rfl (.tmp 19) (.tmp 21) 43 31 rfl i0 _ 24 Tryz.underlying43 hi0 hi1 hi2 hi3 rfl (by decide) (by decide) vv_len w _ L.length vs hvs'.out rfl hOk.out _ rfl (.slice pv l.length cv) (cells_new rfl [.slice pv l.length cv] _) vv_one (by omega) ?_); intro q8 d8 w8 hO8 hg8) | (go_at_call 41; refine (hTk.out _).mono ?_; rintro e w9 ⟨rfl, rfl⟩))
      have ka := (Keeps.refl (fun _ => False) w2).alloc (.cells #[.slice pv l.length cv] 31)
      have hE8 := OwnE.snoc hvs'.out hOk.out (fun i u z a b => (hvb'.out i u z a b).keep ka (fun _ _ f => f)) (hO2'.out.keep ka (fun _ _ f => f)) hO8.out hg8.out
      have hK8 := OwnR.keeps hOk.out (hK2.out.alloc (.cells #[.slice pv l.length cv] 31)) hg8.out
      exact ⟨⟨L ++ [l], q8, d8, y.drop (T * 64), pp, cy - T * 64, f, by simp, by rw [List.length_drop], by rw [List.length_drop]; omega, by omega, by rw [List.length_append, List.length_drop]; simp; omega, by rw [List.length_drop]; omega, hstep, hFr, Lib.hid hE8, Lib.hid hK8⟩, by show y.length - T * 64 < y.length; omega⟩
end Go.Proofs.YtdannodhlaaoiaaGreatDoor
/- clones, hold. -/
set_option linter.unusedVariables false
set_option linter.unusedSimpArgs false
namespace Go.Proofs.YtdannodhlaaoiaaGreatDoor
open Go.RowKit
section
variable [Inhabited BaseN]

/-- lists of bytes, of whatever memory -/
def EntsAt (w : World) (ev : Value) (L : List (List UInt8)) : Prop := ∃ vs : List Value, vs.length = L.length ∧ RowsAt 1 vv w ev vs ∧ ∀ (i : Nat) (v : Value) (l : List UInt8), vs[i]? = some v → L[i]? = some l → BytesAt w v l
end
theorem OwnE.at {w0 w : World} {ev : Value} {L : List (List UInt8)} (h : OwnE w0 w ev L) : EntsAt w ev L := by
  obtain ⟨vs, h1, h2, h3⟩ := h
  exact ⟨vs, h1, h2.at vv_len, fun i v l a b => (h3 i v l a b).bytes⟩
theorem EntsAt.keep {w w' : World} {ev : Value} {L : List (List UInt8)} (h : EntsAt w ev L) (k : Keeps (fun _ => False) w w') : EntsAt w' ev L := by
  obtain ⟨vs, h1, h2, h3⟩ := h
  exact ⟨vs, h1, h2.keep k, fun i v l a b => (h3 i v l a b).keep k⟩
theorem EntsAt.slice {w : World} {ev : Value} {L : List (List UInt8)} (h : EntsAt w ev L) : ∃ p c, ev = .slice p L.length c := by
  obtain ⟨vs, h1, h2, -⟩ := h
  obtain ⟨p, c, e⟩ := h2.slice
  exact ⟨p, c, by rw [← h1]; exact e⟩
/-- the k-th of them, in its cell -/
theorem EntsAt.get {w : World} {p : Option Addr} {n c : Nat} {L : List (List UInt8)} (h : EntsAt w (.slice p n c) L) {k : Nat} {l : List UInt8} (hl : L[k]? = some l) : ∃ g o q d, p = some ⟨g, o, none⟩ ∧ w.cell? ⟨g, o + k, none⟩ = some (.slice q l.length d) ∧ BytesAt w (.slice q l.length d) l := by
  obtain ⟨vs, h1, h2, h3⟩ := h
  have hk := (List.getElem?_eq_some_iff.1 hl).1
  obtain ⟨v, hv⟩ : ∃ v, vs[k]? = some v := ⟨_, List.getElem?_eq_getElem (by omega)⟩
  obtain ⟨g, o, hp, hr⟩ := h2.open (by omega)
  have hb := h3 k v l hv hl
  obtain ⟨q, d, rfl, -⟩ := id hb
  have h4 := hr k _ hv 0 _ rfl
  rw [Nat.mul_one, Nat.add_zero] at h4
  exact ⟨g, o, q, d, hp, h4, hb⟩
/-- entries whose blocks' types are known -/
def EntsT (w : World) (ev : Value) (L : List (List UInt8)) : Prop := ∃ vs : List Value, vs.length = L.length ∧ RowsAt 1 vv w ev vs ∧ (0 < vs.length → ∀ k, ev.ownBlock = some k → ∃ cs r, w.heap[k]? = some (.cells cs 31 r)) ∧
  ∀ (i : Nat) (v : Value) (l : List UInt8), vs[i]? = some v → L[i]? = some l → BytesAt w v l ∧ (0 < l.length → ∀ k, v.ownBlock = some k → ∃ cs r, w.heap[k]? = some (.cells cs 5 r))
theorem EntsT.at {w : World} {ev : Value} {L : List (List UInt8)} (h : EntsT w ev L) : EntsAt w ev L := by
  obtain ⟨vs, h1, h2, -, h4⟩ := h
  exact ⟨vs, h1, h2, fun i v l a b => (h4 i v l a b).1⟩
theorem EntsT.slice {w : World} {ev : Value} {L : List (List UInt8)} (h : EntsT w ev L) : ∃ p c, ev = .slice p L.length c := h.at.slice
theorem OwnE.t {w0 w : World} {ev : Value} {L : List (List UInt8)} (h : OwnE w0 w ev L) : EntsT w ev L := by
  obtain ⟨vs, h1, h2, h3⟩ := h
  exact ⟨vs, h1, h2.at vv_len, fun _ k e => h2.ty e, fun i v l a b => ⟨(h3 i v l a b).bytes, fun _ k e => (h3 i v l a b).ty e⟩⟩
theorem EntsT.keepF {F : Nat → Prop} {w w' : World} {ev : Value} {L : List (List UInt8)} (h : EntsT w ev L) (k : Keeps F w w') (hF : ∀ i, F i → ¬ ∃ cs t r, w.heap[i]? = some (.cells cs t r) ∧ (t = 31 ∨ t = 5)) : EntsT w' ev L := by
  obtain ⟨vs, h1, h2, h3, h4⟩ := h
  have a1 : 0 < vs.length → ∀ i, ev.ownBlock = some i → ¬ F i := fun h0 i e f => by
    obtain ⟨cs, r, e2⟩ := h3 h0 i e
    exact hF i f ⟨cs, _, r, e2, .inl rfl⟩
  refine ⟨vs, h1, h2.keepF k a1, fun h0 i e => ?_, fun i v l a b => ?_⟩
  · obtain ⟨cs, r, e2⟩ := h3 h0 i e
    exact ⟨cs, r, by rw [k.block i (lt_of_block e2) (a1 h0 i e)]; exact e2⟩
  · obtain ⟨b1, b2⟩ := h4 i v l a b
    have a2 : 0 < l.length → ∀ i, v.ownBlock = some i → ¬ F i := fun h0 i e f => by
      obtain ⟨cs, r, e2⟩ := b2 h0 i e
      exact hF i f ⟨cs, _, r, e2, .inr rfl⟩
    refine ⟨b1.keepF k a2, fun h0 j e => ?_⟩
    obtain ⟨cs, r, e2⟩ := b2 h0 j e
    exact ⟨cs, r, by rw [k.block j (lt_of_block e2) (a2 h0 j e)]; exact e2⟩
theorem EntsT.keep {w w' : World} {ev : Value} {L : List (List UInt8)} (h : EntsT w ev L) (k : Keeps (fun _ => False) w w') : EntsT w' ev L := h.keepF k (fun i f => f.elim)
section
variable [Inhabited BaseN]
theorem EntsT.keepD {w w' : World} {ev : Value} {L : List (List UInt8)} (h : EntsT w ev L) (k : KeepD w w') : EntsT w' ev L := h.keepF k (fun i ⟨_, cs, t, r, a, b⟩ ⟨cs2, t2, r2, c, d⟩ => by
  rw [a] at c
  injection c with c
  injection c with _ c _
  subst c
  revert b d
  rintro (rfl | rfl | rfl) (d | d) <;> revert d <;> decide)
end
theorem load_bytesv (w : World) (b o : Nat) (v : Value) (h : w.cell? ⟨b, o, none⟩ = some v) : (loadVar 31 ⟨b, o, none⟩).run Tryz.prog w = .ok v w := by simp [go_sem, h]
set_option maxRecDepth 100000 in
set_option maxHeartbeats 4000000 in
theorem clones_any (v : Value) (L : List (List UInt8)) (w : World) (hv : Hid (EntsAt w v L)) (hL : L.length ≤ 1000000) (hl : Hid (∀ l ∈ L, 1 ≤ l.length ∧ l.length ≤ 1000000)) :
    Calls Tryz.prog 51 #[v] w (EntsRes L w) := by
  obtain ⟨p, c, rfl⟩ := hv.out.slice
  obtain ⟨i0, hi0, hi1, hi2, hi3⟩ := bytesAll
  go_enter Tryz.func51, Tryz.ntmps51
  go_wp2_with fail
  go_loopw [8, 3] (fun iv lv wr => ∃ (k : Nat) (pl : Option Addr) (cl : Nat), k ≤ L.length ∧ iv = .int .i64 k ∧ lv = .slice pl k cl ∧ Hid (OwnE w wr lv (L.take k)) ∧ Hid (Keeps (fun _ => False) w wr)) (fun iv _ _ => L.length - (intOf iv).toNat)
  case atStart => exact ⟨0, none, 0, by omega, rfl, rfl, Lib.hid (OwnE.nil _ _ (Nat.le_refl _)), Lib.hid (Keeps.refl _ _)⟩
  case round =>
    obtain ⟨k, pl, cl, hk, rfl, rfl, hE, hK⟩ := hrel
    by_cases hlk : k < L.length
    · obtain ⟨l, hx⟩ : ∃ x, L[k]? = some x := ⟨_, List.getElem?_eq_getElem hlk⟩
      obtain ⟨g, o, q, d, rfl, hc0, hb0⟩ := hv.out.get hx
      have hc1 : wr.cell? ⟨g, o + k, none⟩ = some (.slice q l.length d) := (hK.out.cell (p := ⟨g, o + k, none⟩) (World.block_lt_of_cell? w _ hc0) id).trans hc0
      have hb1 := Lib.hid (hb0.keep hK.out)
      obtain ⟨s1, s2⟩ := hl.out l (List.mem_of_getElem? hx)
      have hC := Lib.hid (bytesClone_any _ l wr hb1.out (by omega) s2)
      have hst : Hid (L.take (k + 1) = L.take k ++ [l]) := Lib.hid (by
        obtain ⟨h2, e⟩ := List.getElem?_eq_some_iff.1 hx
        rw [List.take_succ_eq_append_getElem h2, e])
      have m1 : (0 : Int) ≤ (k : Int) := by omega
      have m2 : (k : Int) < (L.length : Int) := by omega
      clear hc0 hb0 hb1 hx
      go_wp2_with fail
      refine hC.out.mono ?_
      rintro e w2 ⟨v2, rfl, hO2, k2⟩
      obtain ⟨pv, cv, rfl⟩ := hO2.slice
      have hO2' := Lib.hid (hO2.older (w0 := w) hK.out.size)
      have hE2 := Lib.hid (hE.out.keep k2)
      have hK2 := Lib.hid (hK.out.trans k2)
      clear k2 hO2 hE hK hC hc1
      obtain ⟨vs, hvs, hOv, hvb⟩ := hE2.out
      have hvs2 : vs.length = k := by rw [hvs, List.length_take]; omega
      have hvs' := Lib.hid hvs
      have hvs2' := Lib.hid hvs2
      have hOv' := Lib.hid hOv
      have hvb' := Lib.hid hvb
      clear hvs hOv hvb hvs2
      have hOk := Lib.hid (hOv'.out.keep ((Keeps.refl (fun _ => False) _).alloc (.cells #[.slice pv l.length cv] 31)) (fun _ _ f => f))
      go_wp2_with ((with_reducible refine at_slot 16 ?_); go_must (refine wpList_append_r rfl (.tmp 12) (.tmp 15) 43 31 rfl i0 _ 24 Tryz.underlying43 hi0 hi1 hi2 hi3 rfl (by decide) (by decide) vv_len w _ k vs hvs2'.out rfl hOk.out _ rfl (.slice pv l.length cv) (cells_new rfl [.slice pv l.length cv] _) vv_one (by omega) ?_); intro q8 d8 w8 hO8 hg8)
      have ka := (Keeps.refl (fun _ => False) w2).alloc (.cells #[.slice pv l.length cv] 31)
      have hE8 := OwnE.snoc hvs'.out hOk.out (fun i u z a b => (hvb'.out i u z a b).keep ka (fun _ _ f => f)) (hO2'.out.keep ka (fun _ _ f => f)) hO8.out hg8.out
      have hK8 := OwnR.keeps hOk.out (hK2.out.alloc (.cells #[.slice pv l.length cv] 31)) hg8.out
      exact ⟨⟨k + 1, q8, d8, by omega, by go_num, rfl, Lib.hid (by rw [hst.out]; exact hE8), Lib.hid hK8⟩, by simp [intOf]; omega⟩
    · obtain rfl : k = L.length := by omega
      rw [List.take_length] at hE
      go_wp2_with fail
      go_ret
      exact ⟨pl, cl, rfl, hE.out, hK.out⟩
end Go.Proofs.YtdannodhlaaoiaaGreatDoor
