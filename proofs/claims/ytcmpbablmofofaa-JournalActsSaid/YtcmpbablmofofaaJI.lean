/- A frame read. -/
import Derived.Test.YtcmpbablmofofaaJH
namespace Go.Proofs.Ytcmpbablmofofaa
open Go.RowKit

def frameOf (x : List UInt8) (gen place : Nat) : Option (List UInt8) :=
  let n := beVal ((x.drop 13).take 2)
  if x.length < 64 ∨ n = 0 ∨ 8192 < n ∨ x.length < takes n * 64 then none
  else if x.take (takes n * 64) = frameB gen place ((x.drop 19).take n) then some ((x.drop 19).take n) else none
def ReadF (o : Option (List UInt8)) (w : World) (e : Ending) (w' : World) : Prop :=
  Keeps (fun _ => False) w w' ∧ match o with
  | none => e = .returned (.tuple #[.slice none 0 0, .bool false])
  | some l => ∃ v, e = .returned (.tuple #[v, .bool true]) ∧ OwnB w w' v l

theorem part_bytes {W : World} {g o : Nat} {x : List UInt8} (h : W.rangeAt g o (x.map bv)) (a n c : Nat) (hn : a + n ≤ x.length) (hc : n ≤ c) : BytesAt W (.slice (some ⟨g, o + a, none⟩) n c) ((x.drop a).take n) := by
  have e : ((x.drop a).take n).length = n := by simp; omega
  refine ⟨some ⟨g, o + a, none⟩, c, by rw [e], (fun e => by cases e), by rw [e]; exact hc, fun _ => ⟨g, o + a, rfl, fun j u hu => ?_⟩⟩
  rw [List.map_take, List.getElem?_take] at hu
  split at hu
  · rw [List.map_drop, List.getElem?_drop] at hu
    have := h (a + j) u hu
    rw [show o + a + j = o + (a + j) by omega]; exact this
  · cases hu
theorem part_range {W : World} {g o : Nat} {x : List UInt8} (h : W.rangeAt g o (x.map bv)) (a n : Nat) : W.rangeAt g (o + a) (((x.drop a).take n).map bv) := fun j u hu => by
  rw [List.map_take, List.getElem?_take] at hu
  split at hu
  · rw [List.map_drop, List.getElem?_drop] at hu
    have := h (a + j) u hu
    rw [show o + a + j = o + (a + j) by omega]; exact this
  · cases hu

theorem readFrame_short (p : Option Addr) (n c : Nat) (hn : n < 64) (gen place : Nat) (w : World) : Calls Try.prog 72 #[.slice p n c, .int .u64 gen, .int .i64 place] w (ReadF none w) := by
  go_enter Try.func72, Try.ntmps72
  go_wp2
  go_ret2
  exact ⟨Keeps.refl _ _, rfl⟩

set_option maxRecDepth 100000 in
set_option maxHeartbeats 1000000 in
theorem readFrame_any (g o c : Nat) (x : List UInt8) (gen place : Nat) (hg : gen < 18446744073709551616) (hp : place < 4294967296) (w : World) (hr : w.rangeAt g o (x.map bv)) (hx : x.length ≤ 1000000) (hc : x.length ≤ c) (hcm : c ≤ 9223372036854775807) :
    Calls Try.prog 72 #[.slice (some ⟨g, o, none⟩) x.length c, .int .u64 gen, .int .i64 place] w (ReadF (frameOf x gen place) w) := by
  by_cases h64 : x.length < 64
  · have e : frameOf x gen place = none := by unfold frameOf; rw [if_pos (.inl h64)]
    rw [e]; exact readFrame_short _ _ _ h64 _ _ _
  have hnv : beVal ((x.drop 13).take 2) < 65536 := by
    have := beVal_lt ((x.drop 13).take 2)
    rw [show ((x.drop 13).take 2).length = 2 by simp; omega] at this
    exact this
  obtain ⟨n, hn⟩ : ∃ n, n = beVal ((x.drop 13).take 2) := ⟨_, rfl⟩
  rw [← hn] at hnv
  have hT := takes_ge n
  have hT2 : takes n ≤ 1026 := by unfold takes; omega
  obtain ⟨T, hTe⟩ : ∃ T, T = takes n := ⟨_, rfl⟩
  rw [← hTe] at hT hT2
  have hn' := Lib.hid hn
  have hTe' := Lib.hid hTe
  have hr' := Lib.hid hr
  have hcl : 64 ≤ c := by omega
  clear hr
  by_cases hbad : n = 0 ∨ 8192 < n ∨ x.length < T * 64
  · have e : frameOf x gen place = none := by
      unfold frameOf; simp only [← hn, ← hTe]; rw [if_pos (.inr hbad)]
    rw [e]
    clear hn hTe e
    have hbad2 : n = 0 ∨ (n ≠ 0 ∧ 8192 < n) ∨ (n ≠ 0 ∧ n ≤ 8192 ∧ x.length < T * 64) := by omega
    clear hbad
    rcases hbad2 with hb | ⟨hb1, hb⟩ | ⟨hb1, hb2, hb⟩
    · have hb0 : ((n : Int) == 0) = true := by simp [hb]
      clear hb
      go_enter Try.func72, Try.ntmps72
      go_wp2_with (first | (go_at_call 78; refine (read16_any g (o + 13) _ ((x.drop 13).take 2) (by simp; omega) _ (Lib.hid (part_range hr'.out 13 2))).mono ?_; rintro e w' ⟨rfl, rfl⟩; rw [← hn'.out]) | (go_at_call 42; refine (takes_any _ (by omega) _).mono ?_; rintro e w' ⟨rfl, rfl⟩; rw [← hTe'.out]))
      go_ret2
      exact ⟨Keeps.refl _ _, rfl⟩
    all_goals
      have hb0 : ((n : Int) == 0) = false := by simp; omega
      go_enter Try.func72, Try.ntmps72
      go_wp2_with (first | (go_at_call 78; refine (read16_any g (o + 13) _ ((x.drop 13).take 2) (by simp; omega) _ (Lib.hid (part_range hr'.out 13 2))).mono ?_; rintro e w' ⟨rfl, rfl⟩; rw [← hn'.out]) | (go_at_call 42; refine (takes_any _ (by omega) _).mono ?_; rintro e w' ⟨rfl, rfl⟩; rw [← hTe'.out]))
      go_ret2
      exact ⟨Keeps.refl _ _, rfl⟩
  · have hb0 : ((n : Int) == 0) = false := by simp; omega
    have hn8 : n ≤ 8192 := by omega
    have hn1 : 1 ≤ n := by omega
    have hTx : T * 64 ≤ x.length := by omega
    have hTc : T * 64 ≤ c := by omega
    have e : frameOf x gen place = if x.take (T * 64) = frameB gen place ((x.drop 19).take n) then some ((x.drop 19).take n) else none := by
      unfold frameOf; simp only [← hn, ← hTe]; rw [if_neg (by omega)]
    rw [e]
    clear hn hTe e hbad
    have hel : ((x.drop 19).take n).length = n := by simp; omega
    have hen := part_bytes hr'.out 19 n (c - 19) (by omega) (by omega)
    have hwh : BytesAt w (.slice (some ⟨g, o, none⟩) (T * 64) c) (x.take (T * 64)) := part_bytes hr'.out 0 (T * 64) c (by omega) (by omega)
    obtain ⟨en, hee⟩ : ∃ en, en = (x.drop 19).take n := ⟨_, rfl⟩
    rw [← hee] at hel hen ⊢
    clear hee
    have hen' := Lib.hid hen; clear hen
    have hwh' := Lib.hid hwh; clear hwh
    have hel' := Lib.hid hel; clear hel
    obtain ⟨fb, hfb⟩ : ∃ fb, fb = frameB gen place en := ⟨_, rfl⟩
    obtain ⟨xb, hxb⟩ : ∃ xb, xb = x.take (T * 64) := ⟨_, rfl⟩
    rw [← hfb, ← hxb]
    have hxl : xb.length = T * 64 := by rw [hxb]; simp; omega
    have hfl : fb.length = T * 64 := by rw [hfb, frameB_len, hel'.out, ← hTe'.out]
    rw [← hxb] at hwh'
    have hfb' := Lib.hid hfb; clear hfb
    clear hxb
    have hxl' := Lib.hid hxl; clear hxl
    have hfl' := Lib.hid hfl; clear hfl
    by_cases hq : xb = fb
    · have hqb : (xb == fb) = true := by simp [hq]
      rw [if_pos hq]
      clear hq
      go_enter Try.func72, Try.ntmps72
      go_wp2_with (first | (go_at_call 78; refine (read16_any g (o + 13) _ ((x.drop 13).take 2) (by simp; omega) _ (Lib.hid (part_range hr'.out 13 2))).mono ?_; rintro e w' ⟨rfl, rfl⟩; rw [← hn'.out]) | (go_at_call 42; refine (takes_any _ (by omega) _).mono ?_; rintro e w' ⟨rfl, rfl⟩; rw [← hTe'.out]))
      have hTc' : ((T : Int) * 64) ≤ c := by omega
      have hT0 : (0 : Int) ≤ (T : Int) * 64 := by omega
      have hTn : ((T : Int) * 64).toNat = T * 64 := by omega
      refine wp_region_noPanic ?_
      refine wp_region_held_drew (S := (fun _ => True)) (by kernel_rfl) (trivial) (fun hHeld => ?_)
      refine tk 0 rfl ?_
      refine tk 1 rfl ?_
      refine tk 2 rfl ?_
      refine tk 3 rfl ?_
      refine tk 4 rfl ?_
      refine tk 5 rfl ?_
      refine stepL 6 rfl (by kernel_rfl) (fun K hK => ?_)
      go_simp
      (refine (frame_any gen place hg hp _ en (by rw [hel'.out]; exact hn1) (by rw [hel'.out]; exact hn8) w.drew hen'.out).mono ?_; rintro e w1 ⟨fg, rfl, hfg, hB, hK⟩; rw [← hfb'.out] at hB ⊢; have hB' := Lib.hid hB; clear hB; have hK' := Lib.hid hK; clear hK)
      go_wp2_with fail
      refine hK.out _ _ (trivial) (fun hHeld => ?_)
      clear hK K
      try simp only [Act.put, sA, sZ, sS]
      refine stepL 7 rfl (by kernel_rfl) (fun K hK => ?_)
      go_simp
      (refine (bytesEqual_any _ _ xb fb w1 (BytesAt.keep (w := w.drew) hwh'.out hK'.out) hB'.out.whole (by rw [hxl'.out]; omega) (by rw [hfl'.out]; omega)).mono ?_; rintro e w' ⟨rfl, rfl⟩; rw [hqb])
      go_wp2_with fail
      refine hK.out _ _ (trivial) (fun hHeld => ?_)
      clear hK K
      try simp only [Act.put, sA, sZ, sS]
      refine tk 8 rfl ?_
      refine wpAnyH_done (by kernel_rfl) (NoPanic.normal ?_) _
      go_wp2_with (go_at_call 62; refine (bytesClone_any _ en _ (BytesAt.keep (w := w.drew) hen'.out hK'.out) (by rw [hel'.out]; omega) (by rw [hel'.out]; omega)).mono ?_; rintro e w2 ⟨cv, rfl, hcv, hcK⟩)
      go_ret2
      exact ⟨(((Keeps.refl _ _).drew).trans hK'.out).trans hcK, cv, rfl, hcv.older hK'.out.size⟩
    · have hqb : (xb == fb) = false := by simp [hq]
      rw [if_neg hq]
      clear hq
      go_enter Try.func72, Try.ntmps72
      go_wp2_with (first | (go_at_call 78; refine (read16_any g (o + 13) _ ((x.drop 13).take 2) (by simp; omega) _ (Lib.hid (part_range hr'.out 13 2))).mono ?_; rintro e w' ⟨rfl, rfl⟩; rw [← hn'.out]) | (go_at_call 42; refine (takes_any _ (by omega) _).mono ?_; rintro e w' ⟨rfl, rfl⟩; rw [← hTe'.out]))
      have hTc' : ((T : Int) * 64) ≤ c := by omega
      have hT0 : (0 : Int) ≤ (T : Int) * 64 := by omega
      have hTn : ((T : Int) * 64).toNat = T * 64 := by omega
      refine wp_region_noPanic ?_
      refine wp_region_held_drew (S := (fun _ => True)) (by kernel_rfl) (trivial) (fun hHeld => ?_)
      refine tk 0 rfl ?_
      refine tk 1 rfl ?_
      refine tk 2 rfl ?_
      refine tk 3 rfl ?_
      refine tk 4 rfl ?_
      refine tk 5 rfl ?_
      refine stepL 6 rfl (by kernel_rfl) (fun K hK => ?_)
      go_simp
      (refine (frame_any gen place hg hp _ en (by rw [hel'.out]; exact hn1) (by rw [hel'.out]; exact hn8) w.drew hen'.out).mono ?_; rintro e w1 ⟨fg, rfl, hfg, hB, hK⟩; rw [← hfb'.out] at hB ⊢; have hB' := Lib.hid hB; clear hB; have hK' := Lib.hid hK; clear hK)
      go_wp2_with fail
      refine hK.out _ _ (trivial) (fun hHeld => ?_)
      clear hK K
      try simp only [Act.put, sA, sZ, sS]
      refine stepL 7 rfl (by kernel_rfl) (fun K hK => ?_)
      go_simp
      (refine (bytesEqual_any _ _ xb fb w1 (BytesAt.keep (w := w.drew) hwh'.out hK'.out) hB'.out.whole (by rw [hxl'.out]; omega) (by rw [hfl'.out]; omega)).mono ?_; rintro e w' ⟨rfl, rfl⟩; rw [hqb])
      go_wp2_with fail
      refine hK.out _ _ (trivial) (fun hHeld => ?_)
      clear hK K
      try simp only [Act.put, sA, sZ, sS]
      refine tk 8 rfl ?_
      refine wpAnyH_done (by kernel_rfl) (NoPanic.normal ?_) _
      go_wp2_with fail
      go_ret2
      exact ⟨((Keeps.refl _ _).drew).trans hK'.out, rfl⟩
end Go.Proofs.Ytcmpbablmofofaa
