/- A journal in memory and on its disk: what each call answers and makes, as the laws want it. -/
import Derived.Test.YtcmpbablmofofaaKF
import Derived.Test.YtcmpbablmofofaaKG
set_option linter.unusedVariables false
set_option linter.unusedSimpArgs false
namespace Go.Proofs.Ytcmpbablmofofaa
open Go.RowKit
section
variable [Inhabited BaseN]

end
/-- stays() keeps all that was there: its disk is its own -/
theorem stays_no (w : World) : Calls Try.prog 28 #[] w fun e w' => e = .returned (.bool true) ∧ Keeps (fun _ => False) w w' :=
  (@stays_any ⟨⟨w.heap.size⟩⟩ w (Nat.le_refl _)).mono fun e w' ⟨he, hk⟩ => ⟨he, @keepNo ⟨⟨w.heap.size⟩⟩ w w' hk (Nat.le_refl _)⟩
section
variable [Inhabited BaseN]
/-- the blocks that a journal's calls turn, by their types -/
def JTy (w : World) (k : Nat) : Prop := base0 ≤ k ∧ ∃ cs t r, w.heap[k]? = some (.cells cs t r) ∧ (t = 84 ∨ t = 89 ∨ t = 3 ∨ t = 97 ∨ t = 27)
def KeepJ (w w' : World) : Prop := Keeps (JTy w) w w'
theorem DTy.j {w : World} {k : Nat} (h : DTy w k) : JTy w k := by
  obtain ⟨h0, cs, t, r, h1, h2⟩ := h
  refine ⟨h0, cs, t, r, h1, ?_⟩
  rcases h2 with h2 | h2 | h2
  · exact .inl h2
  · exact .inr (.inl h2)
  · exact .inr (.inr (.inl h2))
theorem KeepJ.refl (w : World) : KeepJ w w := Keeps.refl _ _
theorem KeepJ.trans {a b c : World} (h : KeepJ a b) (k : KeepJ b c) : KeepJ a c := Keeps.trans' h k (fun i hi => by
  by_cases hl : i < a.heap.size
  · by_cases hd : JTy a i
    · exact .inl hd
    · have e := h.block i hl hd
      obtain ⟨hb0, cs, t, r, h1, h2⟩ := hi
      rw [e] at h1
      exact .inl ⟨hb0, cs, t, r, h1, h2⟩
  · exact .inr (by omega))
theorem KeepJ.of {a b : World} (h : Keeps (fun _ => False) a b) : KeepJ a b := Keeps.mono h (fun i f => f.elim)
theorem KeepJ.ofD {a b : World} (h : KeepD a b) : KeepJ a b := Keeps.mono h (fun i hi => .inl hi.j)
theorem KeepJ.thenK {a b c : World} (h : KeepJ a b) (k : Keeps (fun _ => False) b c) : KeepJ a c := h.trans (.of k)
theorem KeepJ.thenD {a b c : World} (h : KeepJ a b) (k : KeepD b c) : KeepJ a c := h.trans (.ofD k)
theorem KeepJ.no {w w1 w2 : World} (h1 : Keeps (fun _ => False) w w1) (k : KeepJ w1 w2) (h : w.heap.size ≤ base0) : Keeps (fun _ => False) w w2 := Keeps.trans' h1 k (fun i hi => .inr (Nat.le_trans h hi.1))
theorem JHead.jty {w : World} {jb db gen half : Nat} {ev : Value} {used : Nat} {ended : Bool} (h : JHead w jb db gen half ev used ended) (hb : base0 ≤ jb) : JTy w jb := ⟨hb, _, _, _, h.hd, .inr (.inr (.inr (.inl rfl)))⟩
/-- a journal, in memory and on its disk -/
structure JS (w0 w : World) (jb n gen half : Nat) (ev : Value) (L : List (List UInt8)) (D : Dk) : Prop where
  j : JAt w0 w jb D gen half ev L false
  q : Quiet D
  jd : JD D.la n gen half L
  n : D.n = n
  b0 : base0 ≤ w0.heap.size
  jb0 : base0 ≤ jb
theorem JS.keep {w0 w w' : World} {jb n gen half : Nat} {ev : Value} {L : List (List UInt8)} {D : Dk} (h : JS w0 w jb n gen half ev L D) (k : Keeps (fun _ => False) w w') : JS w0 w' jb n gen half ev L D := ⟨h.j.keep k, h.q, h.jd, h.n, h.b0, h.jb0⟩
theorem JS.hsz {w0 w : World} {jb n gen half : Nat} {ev : Value} {L : List (List UInt8)} {D : Dk} (h : JS w0 w jb n gen half ev L D) : hsz D = hz n := by unfold Go.Proofs.Ytcmpbablmofofaa.hsz hz; rw [h.n]
theorem JS.evty {w0 w : World} {jb n gen half : Nat} {ev : Value} {L : List (List UInt8)} {D : Dk} (h : JS w0 w jb n gen half ev L D) (i : Nat) (hi : ev.ownBlock = some i) : JTy w i := by
  obtain ⟨vs, -, h2, -⟩ := h.j.ents
  obtain ⟨cs, r, h3⟩ := h2.ty hi
  exact ⟨Nat.le_trans h.b0 (h2.2.1 i hi), cs, _, r, h3, .inr (.inr (.inr (.inr rfl)))⟩
/-- behind an Append or a Compact -/
def OutJ (w0 w : World) (jb n gen half gen' half' : Nat) (ev : Value) (L L' : List (List UInt8)) (D D' : Dk) (ok fits : Prop) (c : Int) : Prop :=
  D'.b = D.b ∧ ((c = 1 ∧ ¬ ok ∧ D' = D ∧ JS w0 w jb n gen half ev L D') ∨ (c = 5 ∧ ok ∧ ¬ fits ∧ D' = D ∧ JS w0 w jb n gen half ev L D') ∨
  (c = 0 ∧ ok ∧ fits ∧ (D.left < 0 → D'.left = D.left) ∧ JS w0 w jb n gen' half' ev L' D') ∨
  (c = 2 ∧ ok ∧ fits ∧ 0 ≤ D.left ∧ D'.n = n ∧ DkAt D' w ∧ ∀ kept, Quiet (D'.crash kept) ∧ (D'.crash kept).left = -1 ∧ (JD (D'.crash kept).la n gen half L ∨ JD (D'.crash kept).la n gen' half' L')))
theorem append_js (w0 w : World) (jb n gen half : Nat) (ev : Value) (L : List (List UInt8)) (D : Dk) (v : Value) (e : List UInt8) (h : Hid (JS w0 w jb n gen half ev L D)) (hv : Hid (BytesAt w v e)) (he : e.length ≤ 1000000) (hvd : Hid (∀ k, v.ownBlock = some k → ¬ DTy w k)) :
    Calls Try.prog 30 #[.pointer (some ⟨jb, 0, none⟩), v] w fun x w' => ∃ c ev' D', x = .returned (.int .i64 c) ∧ KeepJ w w' ∧ JKeep jb ev w w' ∧ OutJ w0 w' jb n gen half gen half ev' L (L ++ [e]) D D' (allowedB e = true) (usedOf L + takes e.length ≤ hz n) c := by
  have hs := h.out.hsz
  have hjd : JD D.la D.n gen half L := by rw [h.out.n]; exact h.out.jd
  have ha := append_any w0 jb gen half ev L D v e w (Lib.hid h.out.j) hv he hvd (by rw [h.out.n]; exact h.out.jd.n4) h.out.jd.hlf h.out.jd.gn (by rw [hs]; exact h.out.jd.used) (by rw [hs]; exact h.out.jd.lenL)
  refine ha.mono ?_
  rintro x w' ⟨rfl, ev', hJ, hk⟩
  have hkJ : KeepJ w w' := Keeps.mono hk (fun i hi => by
    rcases hi with hi | hi | hi
    · exact .inl hi.j
    · rw [hi]; exact .inl (h.out.j.head.jty h.out.jb0)
    · exact .inl (h.out.evty i hi))
  refine ⟨(apR D gen half L e).1, ev', (apR D gen half L e).2.1, rfl, hkJ, hk, ?_⟩
  have hsame := D.wr_same gen half L.length (usedOf L) e
  rcases ap_spec D gen half L e h.out.q hjd with ⟨a1, a2⟩ | ⟨a1, a2, a3⟩ | ⟨a1, a2, a3, a4, a5⟩
  · rw [a2] at hJ ⊢
    exact ⟨rfl, .inl ⟨rfl, by rw [a1]; decide, rfl, hJ, h.out.q, h.out.jd, h.out.n, h.out.b0, h.out.jb0⟩⟩
  · rw [a3] at hJ ⊢
    rw [h.out.n] at a2
    exact ⟨rfl, .inr (.inl ⟨rfl, a1, by omega, rfl, hJ, h.out.q, h.out.jd, h.out.n, h.out.b0, h.out.jb0⟩)⟩
  · rw [h.out.n] at a2
    rcases a3 with ⟨b1, b2, b3, b4, b5⟩ | ⟨b1, b2, b3, b4, b5⟩
    · rw [a4 b1] at hJ ⊢
      rw [h.out.n] at b3 b4
      exact ⟨hsame.1, .inr (.inr (.inl ⟨rfl, a1, a2, b5, hJ, b2, b4, b3, h.out.b0, h.out.jb0⟩))⟩
    · rw [a5 b1] at hJ ⊢
      rw [h.out.n] at b3 b5
      exact ⟨hsame.1, .inr (.inr (.inr ⟨rfl, a1, a2, b4, b3, hJ.dk, b5⟩))⟩
theorem compact_js (w0 w : World) (jb n gen half : Nat) (ev : Value) (L0 : List (List UInt8)) (D : Dk) (v : Value) (L : List (List UInt8)) (h : Hid (JS w0 w jb n gen half ev L0 D)) (hv : Hid (EntsT w v L)) (hl : Hid (∀ l ∈ L, l.length ≤ 1000000)) (hL : L.length ≤ 100000) (hg : gen + 1 < 18446744073709551616) :
    Calls Try.prog 31 #[.pointer (some ⟨jb, 0, none⟩), v] w fun x w' => ∃ c ev' D', x = .returned (.int .i64 c) ∧ KeepJ w w' ∧ Keeps (fun k => DTy w k ∨ k = jb) w w' ∧ OutJ w0 w' jb n gen half (gen + 1) (1 - half) ev' L0 L D D' (L.all allowedB = true) (usedOf L ≤ hz n) c ∧
      (0 ≤ D.left → D.left ≤ hz n → L.all allowedB = true → usedOf L ≤ hz n → c = 2 ∧ ∀ kept, JD (D'.crash kept).la n gen half L0) := by
  have hjd : JD D.la D.n gen half L0 := by rw [h.out.n]; exact h.out.jd
  have ha := compact_any w0 jb gen half ev L0 D v L w (Lib.hid h.out.j) hv hl hL (by rw [h.out.n]; exact h.out.jd.n4) h.out.jd.hlf h.out.jd.gn
  refine ha.mono ?_
  rintro x w' ⟨rfl, ev', hJ, hk⟩
  have hkJ : KeepJ w w' := Keeps.mono hk (fun i hi => by
    rcases hi with hi | hi
    · exact .inl hi.j
    · rw [hi]; exact .inl (h.out.j.head.jty h.out.jb0))
  refine ⟨(cpR D gen half L0 L).1, ev', (cpR D gen half L0 L).2.1, rfl, hkJ, hk, ?_⟩
  have hsame := mvR_same D (gen + 1) (1 - half) L
  rcases cp_spec D gen half L0 L h.out.q hjd hg with ⟨a1, a2⟩ | ⟨a1, a2, a3⟩ | ⟨a1, a2, a3, a4, a5, a6⟩
  · rw [a2] at hJ ⊢
    exact ⟨⟨rfl, .inl ⟨rfl, by rw [a1]; decide, rfl, hJ, h.out.q, h.out.jd, h.out.n, h.out.b0, h.out.jb0⟩⟩, fun _ _ c => by rw [a1] at c; cases c⟩
  · rw [a3] at hJ ⊢
    rw [h.out.n] at a2
    exact ⟨⟨rfl, .inr (.inl ⟨rfl, a1, by omega, rfl, hJ, h.out.q, h.out.jd, h.out.n, h.out.b0, h.out.jb0⟩)⟩, fun _ _ _ c => absurd a2 (by omega)⟩
  · rw [h.out.n] at a2 a6
    rcases a3 with ⟨b1, b2, b3, b4, b5⟩ | ⟨b1, b2, b3, b4, b5⟩
    · rw [a4 b1] at hJ ⊢
      rw [h.out.n] at b3 b4
      exact ⟨⟨hsame, .inr (.inr (.inl ⟨rfl, a1, a2, b5, hJ, b2, b4, b3, h.out.b0, h.out.jb0⟩))⟩, fun c1 c2 _ _ => by
        have h9 := (a6 c1 c2).1
        rw [b1] at h9; cases h9⟩
    · rw [a5 b1] at hJ ⊢
      rw [h.out.n] at b3 b5
      exact ⟨⟨hsame, .inr (.inr (.inr ⟨rfl, a1, a2, b4, b3, hJ.dk, b5⟩))⟩, fun c1 c2 _ _ => ⟨rfl, (a6 c1 c2).2⟩⟩
theorem open_js (w : World) (n gen half : Nat) (L : List (List UInt8)) (D : Dk) (hb : base0 ≤ w.heap.size) (hD : Hid (DkAt D w)) (hq : Hid (Quiet D)) (hjd : Hid (JD D.la n gen half L)) (hn : Hid (D.n = n)) :
    Calls Try.prog 27 #[.pointer (some ⟨D.b, 0, none⟩)] w fun x w' => KeepD w w' ∧ ∃ jb ev, x = .returned (.tuple #[.pointer (some ⟨jb, 0, none⟩), .int .i64 0]) ∧ w.heap.size ≤ jb ∧ JS w w' jb n gen half ev L D := by
  obtain ⟨o1, o2, o3, o4⟩ := open_spec hq.out.on (show JD D.la D.n gen half L by rw [hn.out]; exact hjd.out)
  refine (open_any D w hD).mono ?_
  intro x w' hx
  rw [o1, o2, o3, o4] at hx
  obtain ⟨k, jb, ev, e, hjb, hJ⟩ := hx.ok rfl
  exact ⟨k, jb, ev, e, hjb, hJ, hq.out, hjd.out, hn.out, hb, Nat.le_trans hb hjb⟩
end
theorem clR_b (D : Dk) (gen half : Nat) : (clR D gen half).2.b = D.b := by
  unfold clR
  split
  · rfl
  · exact (D.writes_same _ _).1
theorem begR_b (D : Dk) : (begR D).2.b = D.b := by
  have h1 := clR_b D (genN D) 0
  have h2 := (clR D (genN D) 0).2.write_same (1 - ((genN D % 2 : Nat) : Int)) (noughts 64)
  have h3 := ((clR D (genN D) 0).2.write (1 - ((genN D % 2 : Nat) : Int)) (noughts 64)).2.writes_same (genN D % 2) (secsOf (slotB (genN D) 0) 1)
  unfold begR
  split
  · rfl
  · split
    · rfl
    · split
      · exact h1
      · split
        · rw [h2.1, h1]
        · rw [h3.1, h2.1, h1]
section
variable [Inhabited BaseN]
theorem begin_js (w : World) (b bs n : Nat) (h4 : 4 ≤ n) (hb : base0 ≤ w.heap.size) (hD : Hid (DkAt (fresh b bs n) w)) :
    Calls Try.prog 26 #[.pointer (some ⟨b, 0, none⟩)] w fun x w' => KeepD w w' ∧ ∃ jb ev D, x = .returned (.tuple #[.pointer (some ⟨jb, 0, none⟩), .int .i64 0]) ∧ w.heap.size ≤ jb ∧ D.b = b ∧ D.left = -1 ∧ JS w w' jb n 1 0 ev [] D := by
  obtain ⟨o1, o2, o3, o4, o5⟩ := fresh_begin b bs n h4
  refine (begin_any (fresh b bs n) w hD).mono ?_
  intro x w' hx
  rw [fresh_gen] at hx
  obtain ⟨k, jb, ev, e, hjb, hJ⟩ := hx.ok o1
  exact ⟨k, jb, ev, _, e, hjb, begR_b _, o5, hJ, o2, o4, o3, hb, Nat.le_trans hb hjb⟩
/-- a new disk -/
theorem new_js (n : Nat) (w : World) (h1 : 1 ≤ n) (h2 : n ≤ 1024) (hb : base0 ≤ w.heap.size) : Calls Try.prog 19 #[.int .i64 n] w fun e w' => ∃ b bs, e = .returned (.tuple #[.pointer (some ⟨b, 0, none⟩), .int .i64 0]) ∧ DkAt (fresh b bs n) w' ∧ Keeps (fun _ => False) w w' :=
  (own_new n w h1 h2).mono fun e w' ⟨b, bs, he, ⟨v, hm, hf⟩, hk⟩ => ⟨b, bs, he, ⟨v, hm, fun k hk => Nat.le_trans hb (hf k hk)⟩, hk⟩
theorem dk_crash (D : Dk) (w : World) (kv : Value) (kept : List Bool) (h : DkAt D w) (hk : BoolsAt w kv kept) (hsep : 0 < kept.length → ∀ k, kv.ownBlock = some k → k < base0) :
    Calls Try.prog 11 #[.pointer (some ⟨D.b, 0, none⟩), kv] w fun e w' => e = .returned (.tuple #[]) ∧ DkAt (D.crash kept) w' ∧ KeepD w w' := by
  obtain ⟨v, hm, hbb⟩ := h
  exact (crash_any D v w kv kept hm hk (fun h0 k hk e => by
    have h1 := hsep h0 k hk
    have h2 := hbb D.bs (.inr (.inl rfl))
    omega)).mono fun e w' ⟨he, ha⟩ => ⟨he, DkAt.of hm hbb ha⟩
theorem dk_arm (D : Dk) (w : World) (s : Int) (h : DkAt D w) (hs1 : -9223372036854775808 ≤ s) (hs2 : s ≤ 9223372036854775807) :
    Calls Try.prog 10 #[.pointer (some ⟨D.b, 0, none⟩), .int .i64 s] w fun e w' => e = .returned (.tuple #[]) ∧ DkAt { D with left := s } w' ∧ KeepD w w' := by
  obtain ⟨v, hm, hbb⟩ := h
  refine (arm_any D.b _ s w hm.c3 (hm.fr 3)).mono ?_
  rintro e w' ⟨rfl, rfl⟩
  exact ⟨rfl, DkAt.of hm hbb (fail_mem hm D.on s hs1 hs2 _ (by simpa using heap_put hm.hd 3 (.int .i64 s)) ((Keeps.refl (fun k => k = D.b) w).setCell (p := ⟨D.b, 3, none⟩) (.inl rfl) _))⟩
/-- a journal whose disk is armed anew -/
theorem JS.arm {w0 w w' : World} {jb n gen half : Nat} {ev : Value} {L : List (List UInt8)} {D : Dk} (h : JS w0 w jb n gen half ev L D) (s : Int) (hD : DkAt { D with left := s } w') (k : KeepD w w') : JS w0 w' jb n gen half ev L { D with left := s } :=
  ⟨⟨h.j.head.keepD k, h.j.ents.keepD k, hD⟩, ⟨h.q.on, h.q.ord, h.q.st⟩, h.jd, h.n, h.b0, h.jb0⟩
theorem all_js (w0 w : World) (jb n gen half : Nat) (ev : Value) (L : List (List UInt8)) (D : Dk) (h : Hid (JS w0 w jb n gen half ev L D)) : Calls Try.prog 32 #[.pointer (some ⟨jb, 0, none⟩)] w (EntsRes L w) := by
  have h1 := h.out.jd.lenL
  have h2 : hz n ≤ 600 := by
    have := h.out.j.dk.n1.2
    rw [h.out.n] at this
    unfold hz; omega
  exact all_any w0 jb gen half ev L false D w (Lib.hid h.out.j) (by omega) (Lib.hid (fun l hl => by have := h.out.jd.lens l hl; omega))
theorem free_js (w0 w : World) (jb n gen half : Nat) (ev : Value) (L : List (List UInt8)) (D : Dk) (h : Hid (JS w0 w jb n gen half ev L D)) : Calls Try.prog 33 #[.pointer (some ⟨jb, 0, none⟩)] w fun e w' => e = .returned (.int .i64 (hz n - usedOf L : Nat)) ∧ w.drew = w' := by
  have hf := free_any jb gen half ev (usedOf L) _ D w h.out.j.head h.out.j.dk.own h.out.j.dk.n1.2 (by rw [h.out.n]; exact h.out.jd.n4) (by rw [h.out.n]; exact h.out.jd.used)
  rw [h.out.n] at hf
  exact hf
end
end Go.Proofs.Ytcmpbablmofofaa
