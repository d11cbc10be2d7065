/- A frame read. -/
import Derived.Test.YtdannodhlaaoiaaGreatDoorWT33
import Derived.Test.YtdannodhlaaoiaaGreatDoorWT16
import Derived.Deep.DeepCutAuto
set_option linter.unusedVariables false
set_option linter.unusedSimpArgs false
namespace Go.Proofs.YtdannodhlaaoiaaGreatDoor
open Go.RowKit

def frameOf (x : List UInt8) (gen place : Nat) : Option (List UInt8) :=
  let n := beVal ((x.drop 13).take 2)
  if x.length < 64 ∨ n = 0 ∨ 8192 < n ∨ x.length < takes n * 64 then none
  else if x.take (takes n * 64) = frameB gen place ((x.drop 19).take n) then some ((x.drop 19).take n) else none
def ReadF (o : Option (List UInt8)) (w : World) (e : Ending) (w' : World) : Prop :=
  Keeps (fun _ => False) w w' ∧ match o with
  | none => e = .returned (.tuple #[.slice none 0 0, .bool false])
  | some l => ∃ v, e = .returned (.tuple #[v, .bool true]) ∧ OwnB w w' v l

theorem part_bytes {W : World} {g o : Nat} {x : List UInt8} (h : W.rangeAt g o (x.map bv)) (a n c : Nat) (hn : a + n ≤ x.length) (hc : n ≤ c) : BytesAt W (.slice (some ⟨g, o + a, none⟩) n c) ((x.drop a).take n) := by
  have e : ((x.drop a).take n).length = n := by simp; omega
  refine ⟨some ⟨g, o + a, none⟩, c, by rw [e], (fun e => by cases e), by rw [e]; exact hc, fun _ => ⟨g, o + a, rfl, fun j u hu => ?_⟩⟩
  rw [List.map_take, List.getElem?_take] at hu
  split at hu
  · rw [List.map_drop, List.getElem?_drop] at hu
    have := h (a + j) u hu
    rw [show o + a + j = o + (a + j) by omega]; exact this
  · cases hu
theorem part_range {W : World} {g o : Nat} {x : List UInt8} (h : W.rangeAt g o (x.map bv)) (a n : Nat) : W.rangeAt g (o + a) (((x.drop a).take n).map bv) := fun j u hu => by
  rw [List.map_take, List.getElem?_take] at hu
  split at hu
  · rw [List.map_drop, List.getElem?_drop] at hu
    have := h (a + j) u hu
    rw [show o + a + j = o + (a + j) by omega]; exact this
  · cases hu

theorem readFrame_short (p : Option Addr) (n c : Nat) (hn : n < 64) (gen place : Nat) (w : World) : Calls Tryz.prog 86 #[.slice p n c, .int .u64 gen, .int .i64 place] w (ReadF none w) := by
  go_enter Tryz.func86, Tryz.ntmps86
  go_wp2
  go_ret2
  exact ⟨Keeps.refl _ _, rfl⟩

set_option maxRecDepth 100000 in
set_option maxHeartbeats 1000000 in
theorem readFrame_any (g o c : Nat) (x : List UInt8) (gen place : Nat) (hg : gen < 18446744073709551616) (hp : place < 4294967296) (w : World) (hr : w.rangeAt g o (x.map bv)) (hx : x.length ≤ 1000000) (hc : x.length ≤ c) (hcm : c ≤ 9223372036854775807) :
    Calls Tryz.prog 86 #[.slice (some ⟨g, o, none⟩) x.length c, .int .u64 gen, .int .i64 place] w (ReadF (frameOf x gen place) w) := by
  by_cases h64 : x.length < 64
  · have e : frameOf x gen place = none := by unfold frameOf; rw [if_pos (.inl h64)]
    rw [e]; exact readFrame_short _ _ _ h64 _ _ _
  have hnv : beVal ((x.drop 13).take 2) < 65536 := by
    have := beVal_lt ((x.drop 13).take 2)
    rw [show ((x.drop 13).take 2).length = 2 by simp; omega] at this
    exact this
  obtain ⟨n, hn⟩ : ∃ n, n = beVal ((x.drop 13).take 2) := ⟨_, rfl⟩
  rw [← hn] at hnv
  have hT := takes_ge n
  have hT2 : takes n ≤ 1026 := by unfold takes; omega
  obtain ⟨T, hTe⟩ : ∃ T, T = takes n := ⟨_, rfl⟩
  rw [← hTe] at hT hT2
  have hn' := Lib.hid hn
  have hTe' := Lib.hid hTe
  have hr' := Lib.hid hr
  have hcl : 64 ≤ c := by omega
  clear hr
  by_cases hbad : n = 0 ∨ 8192 < n ∨ x.length < T * 64
  · have e : frameOf x gen place = none := by
      unfold frameOf; simp only [← hn, ← hTe]; rw [if_pos (.inr hbad)]
    rw [e]
    clear hn hTe e
    have hbad2 : n = 0 ∨ (n ≠ 0 ∧ 8192 < n) ∨ (n ≠ 0 ∧ n ≤ 8192 ∧ x.length < T * 64) := by omega
    clear hbad
    rcases hbad2 with hb | ⟨hb1, hb⟩ | ⟨hb1, hb2, hb⟩
    · have hb0 : ((n : Int) == 0) = true := by simp [hb]
      clear hb
      go_enter Tryz.func86, Tryz.ntmps86
      go_wp2_with (first | (go_at_call 110; refine (read16_any g (o + 13) _ ((x.drop 13).take 2) (by simp; omega) _ (Lib.hid (part_range hr'.out 13 2))).mono ?_; rintro e w' ⟨rfl, rfl⟩; rw [← hn'.out]) | (go_at_call 41; refine (takes_any _ (by omega) _).mono ?_; rintro e w' ⟨rfl, rfl⟩; rw [← hTe'.out]))
      go_ret2
      exact ⟨Keeps.refl _ _, rfl⟩
    all_goals
      have hb0 : ((n : Int) == 0) = false := by simp; omega
      go_enter Tryz.func86, Tryz.ntmps86
      go_wp2_with (first | (go_at_call 110; refine (read16_any g (o + 13) _ ((x.drop 13).take 2) (by simp; omega) _ (Lib.hid (part_range hr'.out 13 2))).mono ?_; rintro e w' ⟨rfl, rfl⟩; rw [← hn'.out]) | (go_at_call 41; refine (takes_any _ (by omega) _).mono ?_; rintro e w' ⟨rfl, rfl⟩; rw [← hTe'.out]))
      go_ret2
      exact ⟨Keeps.refl _ _, rfl⟩
  · have hb0 : ((n : Int) == 0) = false := by simp; omega
    have hn8 : n ≤ 8192 := by omega
    have hn1 : 1 ≤ n := by omega
    have hTx : T * 64 ≤ x.length := by omega
    have hTc : T * 64 ≤ c := by omega
    have e : frameOf x gen place = if x.take (T * 64) = frameB gen place ((x.drop 19).take n) then some ((x.drop 19).take n) else none := by
      unfold frameOf; simp only [← hn, ← hTe]; rw [if_neg (by omega)]
    rw [e]
    clear hn hTe e hbad
    have hel : ((x.drop 19).take n).length = n := by simp; omega
    have hen := part_bytes hr'.out 19 n (c - 19) (by omega) (by omega)
    have hwh : BytesAt w (.slice (some ⟨g, o, none⟩) (T * 64) c) (x.take (T * 64)) := part_bytes hr'.out 0 (T * 64) c (by omega) (by omega)
    obtain ⟨en, hee⟩ : ∃ en, en = (x.drop 19).take n := ⟨_, rfl⟩
    rw [← hee] at hel hen ⊢
    clear hee
    have hen' := Lib.hid hen; clear hen
    have hwh' := Lib.hid hwh; clear hwh
    have hel' := Lib.hid hel; clear hel
    obtain ⟨fb, hfb⟩ : ∃ fb, fb = frameB gen place en := ⟨_, rfl⟩
    obtain ⟨xb, hxb⟩ : ∃ xb, xb = x.take (T * 64) := ⟨_, rfl⟩
    rw [← hfb, ← hxb]
    have hxl : xb.length = T * 64 := by rw [hxb]; simp; omega
    have hfl : fb.length = T * 64 := by rw [hfb, frameB_len, hel'.out, ← hTe'.out]
    rw [← hxb] at hwh'
    have hfb' := Lib.hid hfb; clear hfb
    clear hxb
    have hxl' := Lib.hid hxl; clear hxl
    have hfl' := Lib.hid hfl; clear hfl
    by_cases hq : xb = fb
    · have hqb : (xb == fb) = true := by simp [hq]
      rw [if_pos hq]
      clear hq
      go_enter Tryz.func86, Tryz.ntmps86
      go_wp2_with (first | (go_at_call 110; refine (read16_any g (o + 13) _ ((x.drop 13).take 2) (by simp; omega) _ (Lib.hid (part_range hr'.out 13 2))).mono ?_; rintro e w' ⟨rfl, rfl⟩; rw [← hn'.out]) | (go_at_call 41; refine (takes_any _ (by omega) _).mono ?_; rintro e w' ⟨rfl, rfl⟩; rw [← hTe'.out]))
      have hTc' : ((T : Int) * 64) ≤ c := by omega
      have hT0 : (0 : Int) ≤ (T : Int) * 64 := by omega
      have hTn : ((T : Int) * 64).toNat = T * 64 := by omega
      refine wp_region_noPanic ?_
      refine wp_region_held_drew (S := (fun _ => True)) (by kernel_rfl) (trivial) (fun hHeld => ?_)
      refine tk 0 rfl ?_
      refine tk 1 rfl ?_
      refine tk 2 rfl ?_
      refine tk 3 rfl ?_
      refine tk 4 rfl ?_
      refine tk 5 rfl ?_
      refine stepL 6 rfl (by kernel_rfl) (fun K hK => ?_)
      go_simp
      (refine (frame_any gen place hg hp _ en (by rw [hel'.out]; exact hn1) (by rw [hel'.out]; exact hn8) w.drew hen'.out).mono ?_; rintro e w1 ⟨fg, rfl, hfg, hB, hK⟩; rw [← hfb'.out] at hB ⊢; have hB' := Lib.hid hB; clear hB; have hK' := Lib.hid hK; clear hK)
      go_wp2_with fail
      refine hK.out _ _ (trivial) (fun hHeld => ?_)
      clear hK K
      try simp only [Act.put, sA, sZ, sS]
      refine stepL 7 rfl (by kernel_rfl) (fun K hK => ?_)
      go_simp
      (refine (bytesEqual_any _ _ xb fb w1 (BytesAt.keep (w := w.drew) hwh'.out hK'.out) hB'.out.whole (by rw [hxl'.out]; omega) (by rw [hfl'.out]; omega)).mono ?_; rintro e w' ⟨rfl, rfl⟩; rw [hqb])
      go_wp2_with fail
      refine hK.out _ _ (trivial) (fun hHeld => ?_)
      clear hK K
      try simp only [Act.put, sA, sZ, sS]
      refine tk 8 rfl ?_
      refine wpAnyH_done (by kernel_rfl) (NoPanic.normal ?_) _
      go_wp2_with (go_at_call 45; refine (bytesClone_any _ en _ (BytesAt.keep (w := w.drew) hen'.out hK'.out) (by rw [hel'.out]; omega) (by rw [hel'.out]; omega)).mono ?_; rintro e w2 ⟨cv, rfl, hcv, hcK⟩)
      go_ret2
      exact ⟨(((Keeps.refl _ _).drew).trans hK'.out).trans hcK, cv, rfl, hcv.older hK'.out.size⟩
    · have hqb : (xb == fb) = false := by simp [hq]
      rw [if_neg hq]
      clear hq
      go_enter Tryz.func86, Tryz.ntmps86
      go_wp2_with (first | (go_at_call 110; refine (read16_any g (o + 13) _ ((x.drop 13).take 2) (by simp; omega) _ (Lib.hid (part_range hr'.out 13 2))).mono ?_; rintro e w' ⟨rfl, rfl⟩; rw [← hn'.out]) | (go_at_call 41; refine (takes_any _ (by omega) _).mono ?_; rintro e w' ⟨rfl, rfl⟩; rw [← hTe'.out]))
      have hTc' : ((T : Int) * 64) ≤ c := by omega
      have hT0 : (0 : Int) ≤ (T : Int) * 64 := by omega
      have hTn : ((T : Int) * 64).toNat = T * 64 := by omega
      refine wp_region_noPanic ?_
      refine wp_region_held_drew (S := (fun _ => True)) (by kernel_rfl) (trivial) (fun hHeld => ?_)
      refine tk 0 rfl ?_
      refine tk 1 rfl ?_
      refine tk 2 rfl ?_
      refine tk 3 rfl ?_
      refine tk 4 rfl ?_
      refine tk 5 rfl ?_
      refine stepL 6 rfl (by kernel_rfl) (fun K hK => ?_)
      go_simp
      (refine (frame_any gen place hg hp _ en (by rw [hel'.out]; exact hn1) (by rw [hel'.out]; exact hn8) w.drew hen'.out).mono ?_; rintro e w1 ⟨fg, rfl, hfg, hB, hK⟩; rw [← hfb'.out] at hB ⊢; have hB' := Lib.hid hB; clear hB; have hK' := Lib.hid hK; clear hK)
      go_wp2_with fail
      refine hK.out _ _ (trivial) (fun hHeld => ?_)
      clear hK K
      try simp only [Act.put, sA, sZ, sS]
      refine stepL 7 rfl (by kernel_rfl) (fun K hK => ?_)
      go_simp
      (refine (bytesEqual_any _ _ xb fb w1 (BytesAt.keep (w := w.drew) hwh'.out hK'.out) hB'.out.whole (by rw [hxl'.out]; omega) (by rw [hfl'.out]; omega)).mono ?_; rintro e w' ⟨rfl, rfl⟩; rw [hqb])
      go_wp2_with fail
      refine hK.out _ _ (trivial) (fun hHeld => ?_)
      clear hK K
      try simp only [Act.put, sA, sZ, sS]
      refine tk 8 rfl ?_
      refine wpAnyH_done (by kernel_rfl) (NoPanic.normal ?_) _
      go_wp2_with fail
      go_ret2
      exact ⟨((Keeps.refl _ _).drew).trans hK'.out, rfl⟩
end Go.Proofs.YtdannodhlaaoiaaGreatDoor
/- Small calls of the journal. -/
namespace Go.Proofs.YtdannodhlaaoiaaGreatDoor
open Go.RowKit

theorem allowed_any (p : Option Addr) (n c : Nat) (w : World) : Calls Tryz.prog 40 #[.slice p n c] w fun e w' => e = .returned (.bool (decide (1 ≤ n ∧ n ≤ 8192))) ∧ w = w' := by
  by_cases h0 : 0 < n
  · by_cases h1 : n ≤ 8192
    · go_enter Tryz.func40, Tryz.ntmps40
      go_wp2
      go_ret
      refine ⟨?_, rfl⟩
      show Ending.returned (.bool (decide ((n : Int) ≤ 8192))) = _
      rw [show decide (1 ≤ n ∧ n ≤ 8192) = true by simp; omega, show decide ((n : Int) ≤ 8192) = true by simp; omega]
    · go_enter Tryz.func40, Tryz.ntmps40
      go_wp2
      go_ret
      refine ⟨?_, rfl⟩
      show Ending.returned (.bool (decide ((n : Int) ≤ 8192))) = _
      rw [show decide (1 ≤ n ∧ n ≤ 8192) = false by simp; omega, show decide ((n : Int) ≤ 8192) = false by simp; omega]
  · obtain rfl : n = 0 := by omega
    go_enter Tryz.func40, Tryz.ntmps40
    go_wp2
    go_ret
    exact ⟨rfl, rfl⟩

theorem jstate_nil (w : World) : Calls Tryz.prog 39 #[.pointer none] w fun e w' => e = .returned (.int .i64 1) ∧ w = w' := by
  go_enter Tryz.func39, Tryz.ntmps39
  go_wp2
  go_ret
  exact ⟨rfl, rfl⟩
theorem all_nil (w : World) : Calls Tryz.prog 15 #[.pointer none] w fun e w' => e = .returned (.slice none 0 0) ∧ w = w' := by
  go_enter Tryz.func15, Tryz.ntmps15
  go_wp2
  go_ret
  exact ⟨rfl, rfl⟩
theorem free_nil (w : World) : Calls Tryz.prog 42 #[.pointer none] w fun e w' => e = .returned (.int .i64 0) ∧ w = w' := by
  go_enter Tryz.func42, Tryz.ntmps42
  go_wp2_with (go_at_call 39; refine (jstate_nil _).mono ?_; rintro e w' ⟨rfl, rfl⟩)
  go_ret
  exact ⟨rfl, rfl⟩

/-- a journal in memory: its own block, and the entries' slice -/
structure JHead (w : World) (jb : Nat) (db : Nat) (gen half : Nat) (ev : Value) (used : Nat) (ended : Bool) : Prop where
  hd : w.heap[jb]? = some (.cells #[.pointer (some ⟨db, 0, none⟩), .int .u64 gen, .int .i64 half, ev, .int .i64 used, .bool ended] 94 (0, 0))
theorem JHead.c0 {w : World} {jb db gen half : Nat} {ev : Value} {used : Nat} {ended : Bool} (h : JHead w jb db gen half ev used ended) : w.cell? ⟨jb, 0, none⟩ = some (.pointer (some ⟨db, 0, none⟩)) := by unfold World.cell?; simp only [h.hd]; rfl
theorem JHead.c1 {w : World} {jb db gen half : Nat} {ev : Value} {used : Nat} {ended : Bool} (h : JHead w jb db gen half ev used ended) : w.cell? ⟨jb, 1, none⟩ = some (.int .u64 gen) := by unfold World.cell?; simp only [h.hd]; rfl
theorem JHead.c2 {w : World} {jb db gen half : Nat} {ev : Value} {used : Nat} {ended : Bool} (h : JHead w jb db gen half ev used ended) : w.cell? ⟨jb, 2, none⟩ = some (.int .i64 half) := by unfold World.cell?; simp only [h.hd]; rfl
theorem JHead.c3 {w : World} {jb db gen half : Nat} {ev : Value} {used : Nat} {ended : Bool} (h : JHead w jb db gen half ev used ended) : w.cell? ⟨jb, 3, none⟩ = some ev := by unfold World.cell?; simp only [h.hd]; rfl
theorem JHead.c4 {w : World} {jb db gen half : Nat} {ev : Value} {used : Nat} {ended : Bool} (h : JHead w jb db gen half ev used ended) : w.cell? ⟨jb, 4, none⟩ = some (.int .i64 used) := by unfold World.cell?; simp only [h.hd]; rfl
theorem JHead.c5 {w : World} {jb db gen half : Nat} {ev : Value} {used : Nat} {ended : Bool} (h : JHead w jb db gen half ev used ended) : w.cell? ⟨jb, 5, none⟩ = some (.bool ended) := by unfold World.cell?; simp only [h.hd]; rfl
theorem jstate_any (jb db gen half : Nat) (ev : Value) (used : Nat) (ended : Bool) (w : World) (h : JHead w jb db gen half ev used ended) : Calls Tryz.prog 39 #[.pointer (some ⟨jb, 0, none⟩)] w fun e w' => e = .returned (.int .i64 (if ended then 2 else 0)) ∧ w = w' := by
  have h0 := h.c0
  have h5 := h.c5
  clear h
  cases ended
  all_goals
    go_enter Tryz.func39, Tryz.ntmps39
    go_wp2
    go_ret
    exact ⟨rfl, rfl⟩
theorem free_any (jb gen half : Nat) (ev : Value) (used : Nat) (F : Nat → Prop) (D : Dk) (w : World) (h : JHead w jb D.b gen half ev used false) (hD : OwnDisk F D w) (hn : D.n ≤ 1024) (h4 : 4 ≤ D.n) (hu : used ≤ (D.n - 2) / 2) :
    Calls Tryz.prog 42 #[.pointer (some ⟨jb, 0, none⟩)] w fun e w' => e = .returned (.int .i64 ((D.n - 2) / 2 - used : Nat)) ∧ w.drew = w' := by
  have hs := Lib.hid (jstate_any jb D.b gen half ev used false w h)
  have hz := halfSize_any F D w.drew hD.drew hn h4
  have h0 := h.c0
  have h4' := h.c4
  clear h hD
  obtain ⟨H, hH⟩ : ∃ H, H = (D.n - 2) / 2 := ⟨_, rfl⟩
  have hH2 : H ≤ 511 := by omega
  rw [← hH] at hz hu ⊢
  clear hH
  have hz' := Lib.hid hz; clear hz
  go_enter Tryz.func42, Tryz.ntmps42
  go_wp2_with (first | (go_at_call 39; refine hs.out.mono ?_; rintro e w' ⟨rfl, rfl⟩))
  have hwr : IntKind.i64.wrap ((H : Int) - used) = (H : Int) - used := by
    simp [IntKind.wrap, IntKind.signed, IntKind.bits]; omega
  refine wp_region_noPanic ?_
  refine wp_region_held_drew (S := (fun W => W = w.drew)) (by kernel_rfl) (rfl) (fun hHeld => ?_)
  refine tk 0 rfl ?_
  refine tk 1 rfl ?_
  refine tk 2 rfl ?_
  refine tk 3 rfl ?_
  refine tk 5 rfl ?_
  refine tk 6 rfl ?_
  refine tk 7 rfl ?_
  refine tk 8 rfl ?_
  refine stepL 4 rfl (by kernel_rfl) (fun K hK => ?_)
  go_simp
  (refine hz'.out.mono ?_; rintro e w' ⟨rfl, rfl⟩)
  go_wp2_with fail
  refine hK.out _ _ (rfl) (fun hHeld => ?_)
  clear hK K
  try simp only [Act.put, sA, sZ, sS]
  refine tk 9 rfl ?_
  refine tk 10 rfl ?_
  refine wpAnyH_done (by kernel_rfl) (NoPanic.normal ?_) _
  go_wp2_with fail
  go_ret
  refine ⟨?_, rfl⟩
  show Ending.returned (.int .i64 ((H : Int) - used)) = _
  rw [show (H : Int) - used = ((H - used : Nat) : Int) by omega]
theorem JHead.fr {w : World} {jb db gen half : Nat} {ev : Value} {used : Nat} {ended : Bool} (h : JHead w jb db gen half ev used ended) (o : Nat) : w.frozen? ⟨jb, o, none⟩ = false := by
  have h := h.hd
  simp [World.frozen?, h]
theorem jend_any (jb db gen half : Nat) (ev : Value) (used : Nat) (ended : Bool) (x : Int) (w : World) (h : JHead w jb db gen half ev used ended) :
    Calls Tryz.prog 44 #[.pointer (some ⟨jb, 0, none⟩), .int .i64 x] w fun e w' => e = .returned (.int .i64 x) ∧ JHead w' jb db gen half (.slice none 0 0) 0 true ∧ Keeps (fun k => k = jb) w w' := by
  have h3 := h.c3
  have h4 := h.c4
  have h5 := h.c5
  have f3 := h.fr 3
  have f4 := h.fr 4
  have f5 := h.fr 5
  have h' := Lib.hid h; clear h
  go_enter Tryz.func44, Tryz.ntmps44
  go_wp2
  go_ret
  refine ⟨rfl, ⟨?_⟩, (((Keeps.refl (fun k => k = jb) w).setCell (p := ⟨jb, 5, none⟩) (.inl rfl) _).setCell (p := ⟨jb, 3, none⟩) (.inl rfl) _).setCell (p := ⟨jb, 4, none⟩) (.inl rfl) _⟩
  have e1 := heap_put h'.out.hd 5 (.bool true)
  have e2 := heap_put e1 3 (.slice none 0 0)
  have e3 := heap_put e2 4 (.int .i64 0)
  simpa using e3
end Go.Proofs.YtdannodhlaaoiaaGreatDoor
/- The disk, kept apart by the types of its blocks; sectors written one behind the other, plain. -/
set_option linter.unusedVariables false
set_option linter.unusedSimpArgs false
namespace Go.Proofs.YtdannodhlaaoiaaGreatDoor
open Go.RowKit

/-- a block behind which all of a disk lies: one number for the whole of a law -/
structure BaseN where
  n : Nat
def base0 [Inhabited BaseN] : Nat := (default : BaseN).n
section
variable [Inhabited BaseN]
/-- blocks of a disk, by their types, from base0 on -/
def DTy (w : World) (k : Nat) : Prop := base0 ≤ k ∧ ∃ cs t r, w.heap[k]? = some (.cells cs t r) ∧ (t = 86 ∨ t = 139 ∨ t = 3)
def KeepD (w w' : World) : Prop := Keeps (DTy w) w w'
theorem KeepD.refl (w : World) : KeepD w w := Keeps.refl _ _
theorem KeepD.trans {a b c : World} (h : KeepD a b) (k : KeepD b c) : KeepD a c := Keeps.trans' h k (fun i hi => by
  by_cases hl : i < a.heap.size
  · by_cases hd : DTy a i
    · exact .inl hd
    · have e := h.block i hl hd
      obtain ⟨hb0, cs, t, r, h1, h2⟩ := hi
      rw [e] at h1
      exact .inl ⟨hb0, cs, t, r, h1, h2⟩
  · exact .inr (by omega))
theorem KeepD.of {a b : World} (h : Keeps (fun _ => False) a b) : KeepD a b := Keeps.mono h (fun i f => f.elim)
theorem KeepD.thenK {a b c : World} (h : KeepD a b) (k : Keeps (fun _ => False) b c) : KeepD a c := Keeps.trans' h k (fun i f => f.elim)
def DkAt (D : Dk) (w : World) : Prop := ∃ v, DiskMem w D v ∧ ∀ k, foot D v k → base0 ≤ k
theorem DkAt.keep {D : Dk} {w w' : World} (h : DkAt D w) (k : Keeps (fun _ => False) w w') : DkAt D w' := by
  obtain ⟨v, h, hb⟩ := h
  exact ⟨v, h.keepF k, hb⟩
theorem foot_ty {D : Dk} {v : Value} {w : World} (h : DiskMem w D v) (hb : ∀ k, foot D v k → base0 ≤ k) : ∀ k, foot D v k → DTy w k := by
  intro k hk0
  refine ⟨hb k hk0, ?_⟩
  revert hk0; revert k
  rintro k (rfl | rfl | hk)
  · exact ⟨_, _, _, h.hd, .inl rfl⟩
  · obtain ⟨C, h1, -⟩ := h.secs.blk
    exact ⟨_, _, _, h1, .inr (.inl rfl)⟩
  · rcases h.ow.2 with ⟨e1, -⟩ | ⟨g, cap, cur, e1, -, hg, -⟩
    · rw [e1] at hk; simp [Value.ownBlock] at hk
    · rw [e1] at hk
      simp only [Value.ownBlock, Option.some.injEq] at hk
      subst hk
      exact ⟨_, _, _, hg, .inr (.inr rfl)⟩
theorem DkAt.of {D D' : Dk} {v : Value} {w w' : World} (h : DiskMem w D v) (hb : ∀ k, foot D v k → base0 ≤ k) (ha : After D v w D' w') : DkAt D' w' ∧ KeepD w w' := by
  obtain ⟨v', h1, h2, h3⟩ := ha
  have e1 := hb D.b (.inl rfl)
  have e2 := h.lt D.b (.inl rfl)
  exact ⟨⟨v', h1, fun k hk => (h3 k hk).elim (hb k) (fun hle => by omega)⟩, h2.mono (fun i hi => .inl (foot_ty h hb i hi))⟩
end
/-- bytes lie apart from a disk's own block -/
theorem bytes_ne {D : Dk} {v sv : Value} {w : World} {x : List UInt8} (h : DiskMem w D v) (hx : BytesAt w sv x) (h0 : 0 < x.length) : ∀ k, sv.ownBlock = some k → k ≠ D.b := fun k e e2 => by
  obtain ⟨p, c, rfl, -, -, hr⟩ := hx
  obtain ⟨b, o, rfl, hr2⟩ := hr h0
  simp only [Value.ownBlock, Option.some.injEq] at e
  obtain ⟨y, hy⟩ : ∃ y, x[0]? = some y := ⟨_, List.getElem?_eq_getElem h0⟩
  have h1 := hr2 0 (bv y) (by rw [List.getElem?_map, hy]; rfl)
  rw [e, e2, Nat.add_zero] at h1
  have h2 := h.hd
  have hv := h.ow.2
  unfold World.cell? at h1
  simp only [h2] at h1
  have h3 : (#[Value.slice (some ⟨D.bs, 0, none⟩) D.n D.n, v, .bool D.on, .int .i64 D.left] : Array Value)[o]? = some (bv y) := h1
  have h4 : o < 4 := by have := (Array.getElem?_eq_some_iff.1 h3).1; simpa using this
  have h5 : o = 0 ∨ o = 1 ∨ o = 2 ∨ o = 3 := by omega
  rcases h5 with e5 | e5 | e5 | e5
  · rw [e5] at h3; simp [bv] at h3
  · rw [e5] at h3
    have h6 : v = bv y := by simpa using h3
    rw [h6] at hv
    rcases hv with ⟨e1, -⟩ | ⟨g, cap, cur, e1, -⟩
    · simp [bv] at e1
    · simp [bv] at e1
  · rw [e5] at h3; simp [bv] at h3
  · rw [e5] at h3; simp [bv] at h3
section
variable [Inhabited BaseN]
theorem dk_write (D : Dk) (w : World) (i : Int) (sv : Value) (x : List UInt8) (h : DkAt D w) (hx : BytesAt w sv x) (h0 : 0 < x.length) :
    Calls Tryz.prog 34 #[.pointer (some ⟨D.b, 0, none⟩), .int .i64 i, sv] w fun e w' => e = .returned (.int .i64 (D.write i x).1) ∧ DkAt (D.write i x).2 w' ∧ KeepD w w' := by
  obtain ⟨v, hm, hbb⟩ := h
  exact (write_any D v w i sv x hm hx (bytes_ne hm hx h0)).mono fun e w' ⟨he, ha⟩ => ⟨he, DkAt.of hm hbb ha⟩
theorem dk_flush (D : Dk) (w : World) (h : DkAt D w) :
    Calls Tryz.prog 80 #[.pointer (some ⟨D.b, 0, none⟩)] w fun e w' => e = .returned (.int .i64 D.flush.1) ∧ DkAt D.flush.2 w' ∧ KeepD w w' := by
  obtain ⟨v, hm, hbb⟩ := h
  exact (flush_any D v w hm).mono fun e w' ⟨he, ha⟩ => ⟨he, DkAt.of hm hbb ha⟩
theorem DkAt.own {D : Dk} {w : World} (h : DkAt D w) : OwnDisk (fun _ => True) D w := by
  obtain ⟨v, hm, -⟩ := h
  exact ⟨v, hm, fun _ _ => trivial⟩
theorem DkAt.n1 {D : Dk} {w : World} (h : DkAt D w) : 1 ≤ D.n ∧ D.n ≤ 1024 := by obtain ⟨v, hm, -⟩ := h; exact ⟨hm.n1, hm.n2⟩
theorem BytesAt.keepD {w w' : World} {v : Value} {x : List UInt8} (h : BytesAt w v x) (k : KeepD w w') (hv : ∀ i, v.ownBlock = some i → ¬ DTy w i) : BytesAt w' v x := h.keepF k (fun _ i e => hv i e)
end
/-- what a disk keeps of itself -/
theorem Dk.fail_same (D : Dk) : D.fail.2.b = D.b ∧ D.fail.2.bs = D.bs ∧ D.fail.2.n = D.n ∧ D.fail.2.st = D.st ∧ D.fail.2.la = D.la ∧ D.fail.2.order = D.order := by
  unfold Dk.fail
  split
  · exact ⟨rfl, rfl, rfl, rfl, rfl, rfl⟩
  · split <;> exact ⟨rfl, rfl, rfl, rfl, rfl, rfl⟩
end Go.Proofs.YtdannodhlaaoiaaGreatDoor
/- writeSectors. -/
set_option linter.unusedVariables false
set_option linter.unusedSimpArgs false
namespace Go.Proofs.YtdannodhlaaoiaaGreatDoor
open Go.RowKit
section
variable [Inhabited BaseN]

/-- sectors written one behind the other, as far as it goes -/
def Dk.wrs (D : Dk) (s : Nat) : List (List UInt8) → Int × Dk
  | [] => (0, D)
  | x :: r => if (D.write s x).1 = 0 then (D.write s x).2.wrs (s + 1) r else D.write s x
def Dk.writes (D : Dk) (s : Nat) (l : List (List UInt8)) : Int × Dk := if (D.wrs s l).1 = 0 then (D.wrs s l).2.flush else D.wrs s l
end
theorem Dk.wrs_snoc {s : Nat} {x : List UInt8} : ∀ {l : List (List UInt8)} {D D' : Dk}, D.wrs s l = (0, D') → D.wrs s (l ++ [x]) = D'.write ((s + l.length : Nat) : Int) x := by
  intro l
  induction l generalizing s with
  | nil =>
    intro D D' h
    have e : D = D' := by injection h
    subst e
    show (if (D.write s x).1 = 0 then _ else _) = _
    split
    · rename_i h0
      show ((0 : Int), (D.write s x).2) = _
      rw [← h0]; rfl
    · rfl
  | cons y l ih =>
    intro D D' h
    show (if (D.write s y).1 = 0 then _ else _) = _
    have h2 : (if (D.write s y).1 = 0 then (D.write s y).2.wrs (s + 1) l else D.write s y) = (0, D') := h
    split
    · rename_i h0
      rw [if_pos h0] at h2
      have h3 := ih h2
      show (D.write s y).2.wrs (s + 1) (l ++ [x]) = _
      rw [h3, List.length_cons, show s + 1 + l.length = s + (l.length + 1) by omega]
    · rename_i h0
      rw [if_neg h0] at h2
      rw [h2] at h0; exact absurd rfl h0
theorem Dk.wrs_bad {s : Nat} {r : List (List UInt8)} : ∀ {l : List (List UInt8)} {D D' : Dk} {e : Int}, D.wrs s l = (e, D') → e ≠ 0 → D.wrs s (l ++ r) = (e, D') := by
  intro l
  induction l generalizing s with
  | nil =>
    intro D D' e h h0
    have h1 : (0 : Int) = e := by injection h
    exact absurd h1.symm h0
  | cons y l ih =>
    intro D D' e h h0
    show (if (D.write s y).1 = 0 then _ else _) = _
    have h2 : (if (D.write s y).1 = 0 then (D.write s y).2.wrs (s + 1) l else D.write s y) = (e, D') := h
    split
    · rename_i h3
      rw [if_pos h3] at h2
      exact ih h2 h0
    · rename_i h3
      rw [if_neg h3] at h2
      exact h2
theorem Dk.write_same (D : Dk) (i : Int) (x : List UInt8) : (D.write i x).2.b = D.b ∧ (D.write i x).2.bs = D.bs ∧ (D.write i x).2.n = D.n := by
  obtain ⟨h1, h2, h3, -⟩ := D.fail_same
  unfold Dk.write
  repeat' split
  all_goals first | exact ⟨rfl, rfl, rfl⟩ | exact ⟨h1, h2, h3⟩
theorem Dk.wrs_same : ∀ (l : List (List UInt8)) (s : Nat) (D : Dk), (D.wrs s l).2.b = D.b ∧ (D.wrs s l).2.bs = D.bs ∧ (D.wrs s l).2.n = D.n := by
  intro l
  induction l with
  | nil => intro s D; exact ⟨rfl, rfl, rfl⟩
  | cons y l ih =>
    intro s D
    have h := D.write_same s y
    show (if (D.write s y).1 = 0 then (D.write s y).2.wrs (s + 1) l else D.write s y).2.b = D.b ∧ _
    by_cases h0 : (D.write s y).1 = 0
    · have h2 := ih (s + 1) (D.write s y).2
      have e : D.wrs s (y :: l) = (D.write s y).2.wrs (s + 1) l := if_pos h0
      rw [e, if_pos h0, h2.1, h2.2.1, h2.2.2]; exact h
    · have e : D.wrs s (y :: l) = D.write s y := if_neg h0
      rw [e, if_neg h0]; exact h
theorem Dk.flush_same (D : Dk) : D.flush.2.b = D.b ∧ D.flush.2.bs = D.bs ∧ D.flush.2.n = D.n := by
  obtain ⟨h1, h2, h3, -⟩ := D.fail_same
  unfold Dk.flush
  repeat' split
  all_goals first | exact ⟨rfl, rfl, rfl⟩ | exact ⟨h1, h2, h3⟩
theorem Dk.writes_same (D : Dk) (s : Nat) (l : List (List UInt8)) : (D.writes s l).2.b = D.b ∧ (D.writes s l).2.bs = D.bs ∧ (D.writes s l).2.n = D.n := by
  have h := Dk.wrs_same l s D
  unfold Dk.writes
  split
  · have h2 := (D.wrs s l).2.flush_same
    rw [h2.1, h2.2.1, h2.2.2]; exact h
  · exact h
section
variable [Inhabited BaseN]
/-- sectors of bytes -/
def secsOf (x : List UInt8) : Nat → List (List UInt8)
  | 0 => []
  | m + 1 => secsOf x m ++ [(x.drop (m * 64)).take 64]
end
theorem secsOf_len (x : List UInt8) (m : Nat) : (secsOf x m).length = m := by
  induction m with
  | zero => rfl
  | succ m ih => unfold secsOf; rw [List.length_append, ih]; rfl
theorem secsOf_more (x : List UInt8) (k m : Nat) (h : k ≤ m) : ∃ r, secsOf x m = secsOf x k ++ r := by
  induction m with
  | zero => exact ⟨[], by have : k = 0 := by omega
                          subst this; rfl⟩
  | succ m ih =>
    by_cases e : k = m + 1
    · exact ⟨[], by rw [e]; simp⟩
    · obtain ⟨r, hr⟩ := ih (by omega)
      exact ⟨r ++ [(x.drop (m * 64)).take 64], by show secsOf x m ++ _ = _; rw [hr, List.append_assoc]⟩
theorem BytesAt.open {w : World} {p : Option Addr} {n c : Nat} {x : List UInt8} (h : BytesAt w (.slice p n c) x) (h0 : 0 < x.length) : ∃ g o, p = some ⟨g, o, none⟩ ∧ x.length ≤ c ∧ w.rangeAt g o (x.map bv) := by
  obtain ⟨p', c', e, -, hc, hr⟩ := h
  injection e with e1 e2 e3
  subst e1; subst e3
  obtain ⟨g, o, h1, h2⟩ := hr h0
  exact ⟨g, o, h1, hc, h2⟩
theorem BytesAt.lenN {w : World} {p : Option Addr} {n c : Nat} {x : List UInt8} (h : BytesAt w (.slice p n c) x) : n = x.length := by
  obtain ⟨p', c', e, -⟩ := h
  injection e
section
variable [Inhabited BaseN]
set_option maxRecDepth 100000 in
set_option maxHeartbeats 4000000 in
theorem writeSectors_any (D : Dk) (s M : Nat) (g o c : Nat) (x : List UInt8) (w : World) (h : Hid (DkAt D w)) (hx : x.length = M * 64) (hc : x.length ≤ c) (hs : s + M ≤ 10000) (hr : Hid (w.rangeAt g o (x.map bv))) (hg : Hid (¬ DTy w g)) :
    Calls Tryz.prog 36 #[.pointer (some ⟨D.b, 0, none⟩), .int .i64 s, .slice (some ⟨g, o, none⟩) x.length c] w fun e w' => e = .returned (.int .i64 (D.writes s (secsOf x M)).1) ∧ DkAt (D.writes s (secsOf x M)).2 w' ∧ KeepD w w' := by
  go_enter Tryz.func36, Tryz.ntmps36
  go_wp2_with fail
  go_loopw [1, 2] (fun iv sv wr => ∃ (k T R : Nat) (D' : Dk) (p : Option Addr) (d : Nat), k ≤ M ∧ Hid (T = s + k ∧ R = (M - k) * 64) ∧ iv = .int .i64 T ∧ sv = .slice p R d ∧ Hid (k < M → p = some ⟨g, o + k * 64, none⟩ ∧ R ≤ d) ∧ Hid (D.wrs s (secsOf x k) = (0, D')) ∧ Hid (DkAt D' wr) ∧ Hid (KeepD w wr)) (fun iv _ _ => s + M - (intOf iv).toNat)
  case atStart => exact ⟨0, s, x.length, D, some ⟨g, o, none⟩, c, by omega, Lib.hid ⟨rfl, by rw [hx]; simp⟩, rfl, rfl, Lib.hid (fun _ => ⟨by simp, by omega⟩), Lib.hid rfl, h, Lib.hid (KeepD.refl _)⟩
  case round =>
    obtain ⟨k, T, R, D', p, d, hk, hTR, rfl, rfl, hp, hD, hDk, hK⟩ := hrel
    have hb : D'.b = D.b := by have h1 := (Dk.wrs_same (secsOf x k) s D).1; rw [hD.out] at h1; exact h1
    by_cases hlk : k < M
    · obtain ⟨hp1, hp2⟩ := hp.out hlk
      subst hp1
      have hR := hTR.out.2
      have hT := hTR.out.1
      have hcl : Hid ((((x.drop (k * 64)).take 64)).length = 64) := Lib.hid (by simp; omega)
      have hch : Hid (BytesAt wr (.slice (some ⟨g, o + k * 64, none⟩) 64 d) ((x.drop (k * 64)).take 64)) := Lib.hid (BytesAt.of hcl.out (by omega) (fun j u hu => by
        rw [List.map_take, List.getElem?_take] at hu
        split at hu
        · rw [List.map_drop, List.getElem?_drop] at hu
          have h1 := (hK.out.rangeAt hr.out hg.out) (k * 64 + j) u hu
          rw [← Nat.add_assoc] at h1; exact h1
        · cases hu))
      have hW := Lib.hid (dk_write D' wr (T : Int) _ _ hDk.out hch.out (by rw [hcl.out]; omega))
      rw [hb] at hW
      obtain ⟨pr, hpr⟩ : ∃ pr, D'.write (T : Int) ((x.drop (k * 64)).take 64) = pr := ⟨_, rfl⟩
      rw [hpr] at hW
      have hwr : Hid (D.wrs s (secsOf x (k + 1)) = pr) := Lib.hid (by
        show D.wrs s (secsOf x k ++ [(x.drop (k * 64)).take 64]) = pr
        rw [Dk.wrs_snoc hD.out, secsOf_len, ← hT]; exact hpr)
      obtain ⟨ec, D2⟩ := pr
      have l1 : (0 : Int) < (R : Int) := by omega
      have l2 : (64 : Int) ≤ (d : Int) := by omega
      have l3 : (64 : Int) ≤ (R : Int) := by omega
      have hTl : T < 10000 := by omega
      have hRl : Hid (R = 64 + (M - (k + 1)) * 64) := Lib.hid (by omega)
      have hpd : Hid (R ≤ d) := Lib.hid hp2
      have hTs : Hid (T = s + k) := Lib.hid hT
      clear hpr hch hcl hD hp hR hT hTR hb hp2
      go_wp2_with fail
      refine hW.out.mono ?_
      rintro e w2 ⟨rfl, hD2, hK2⟩
      have hD2' := Lib.hid hD2
      have hK2' := Lib.hid (hK.out.trans hK2)
      clear hD2 hK2 hW hK
      by_cases h0 : ec = 0
      · subst h0
        obtain ⟨R2, hR2⟩ : ∃ R2, R - 64 = R2 := ⟨_, rfl⟩
        have hpn : Hid (k + 1 < M → (if d = 64 then some (⟨g, o + k * 64, none⟩ : Addr) else some (⟨g, o + k * 64 + 64, none⟩ : Addr)) = some ⟨g, o + (k + 1) * 64, none⟩ ∧ R2 ≤ d - 64) := Lib.hid (fun h => by
          have h1 := hRl.out
          have h2 := hpd.out
          refine ⟨?_, by omega⟩
          rw [if_neg (by omega), show o + (k + 1) * 64 = o + k * 64 + 64 by omega])
        have hTR2 : Hid (T + 1 = s + (k + 1) ∧ R2 = (M - (k + 1)) * 64) := Lib.hid ⟨by have h1 := hTs.out; omega, by have h1 := hRl.out; omega⟩
        obtain ⟨pp, hpp⟩ : ∃ pp, (if d = 64 then some (⟨g, o + k * 64, none⟩ : Addr) else some (⟨g, o + k * 64 + 64, none⟩ : Addr)) = pp := ⟨_, rfl⟩
        rw [hpp] at hpn
        have hR2' := Lib.hid hR2
        clear hRl hpd hr hg
        go_wp2_with fail
        exact ⟨⟨k + 1, T + 1, R2, D2, pp, d - 64, by omega, hTR2, by go_num, rfl, hpn, hwr, hD2', hK2'⟩, by have h1 := hTs.out; simp [intOf]; omega⟩
      · have e1 : (ec == 0) = false := by simpa using h0
        have hres : Hid (D.writes s (secsOf x M) = (ec, D2)) := Lib.hid (by
          obtain ⟨r, hr2⟩ := secsOf_more x (k + 1) M (by omega)
          have h1 := Dk.wrs_bad (r := r) hwr.out h0
          rw [← hr2] at h1
          unfold Dk.writes
          rw [h1, if_neg h0])
        clear hwr h0 hRl hpd
        go_wp2_with fail
        go_ret
        exact ⟨by rw [hres.out]; rfl, by rw [hres.out]; exact hD2'.out, hK2'.out⟩
    · have hkM : k = M := by omega
      have hR := hTR.out.2
      have hR0 : R = 0 := by rw [hR, hkM]; omega
      subst hR0
      have hres : Hid (D.writes s (secsOf x M) = D'.flush) := Lib.hid (by
        have h1 := hD.out
        rw [hkM] at h1
        unfold Dk.writes
        rw [h1, if_pos rfl])
      have hF := Lib.hid (dk_flush D' wr hDk.out)
      rw [hb] at hF
      clear hD hp hR hTR hkM hb
      go_wp2_with fail
      refine hF.out.mono ?_
      rintro e w2 ⟨rfl, hD2, hK2⟩
      have hD2' := Lib.hid hD2
      have hK2' := Lib.hid (hK.out.trans hK2)
      clear hD2 hK2 hF hK
      go_wp2_with fail
      go_ret
      exact ⟨by rw [hres.out]; rfl, by rw [hres.out]; exact hD2'.out, hK2'.out⟩
end
end Go.Proofs.YtdannodhlaaoiaaGreatDoor
