/- readFrames, clones, walked. -/
import Derived.Test.YtcmpbablmofofaaJO
set_option linter.unusedVariables false
set_option linter.unusedSimpArgs false
namespace Go.Proofs.Ytcmpbablmofofaa
open Go.RowKit
section
variable [Inhabited BaseN]

end
theorem BytesAt.from {w : World} {g o n c : Nat} {x : List UInt8} (h : BytesAt w (.slice (some ⟨g, o, none⟩) n c) x) (k : Nat) (hk : k ≤ x.length) : BytesAt w (.slice (if c = k then some ⟨g, o, none⟩ else some ⟨g, o + k, none⟩) (x.length - k) (c - k)) (x.drop k) := by
  obtain ⟨p', c', e, -, hc, hr⟩ := h
  injection e with e1 e2 e3
  subst e1; subst e3
  refine ⟨_, c - k, by rw [List.length_drop], fun h0 => ?_, by rw [List.length_drop]; omega, fun h0 => ?_⟩
  · split at h0 <;> cases h0
  · rw [List.length_drop] at h0
    obtain ⟨g', o', e4, hra⟩ := hr (by omega)
    injection e4 with e4
    injection e4 with e5 e6
    subst e5; subst e6
    refine ⟨g, o + k, by rw [if_neg (by omega)], fun i u hu => ?_⟩
    rw [List.map_drop, List.getElem?_drop] at hu
    have := hra (k + i) u hu
    rw [← Nat.add_assoc] at this
    exact this
section
variable [Inhabited BaseN]
def EntsRes (L : List (List UInt8)) (w : World) (e : Ending) (w' : World) : Prop := ∃ p c, e = .returned (.slice p L.length c) ∧ OwnE w w' (.slice p L.length c) L ∧ Keeps (fun _ => False) w w'
end
set_option maxRecDepth 100000 in
set_option maxHeartbeats 4000000 in
theorem readFrames_any (v : Value) (x : List UInt8) (gen : Nat) (hg : gen < 18446744073709551616) (w : World) (hv : Hid (BytesAt w v x)) (hx : x.length ≤ 1000000) (hc : ∀ p n c, v = .slice p n c → c ≤ 9223372036854775807) :
    Calls Try.prog 57 #[v, .int .u64 gen] w (EntsRes (framesOf (x.length + 1) x gen 0) w) := by
  obtain ⟨p, c, rfl⟩ : ∃ p c, v = .slice p x.length c := by obtain ⟨p, c, e, -⟩ := hv.out; exact ⟨p, c, e⟩
  have hcm := hc p _ c rfl
  obtain ⟨i0, hi0, hi1, hi2, hi3⟩ := bytesAll
  clear hc
  go_enter Try.func57, Try.ntmps57
  go_wp2_with fail
  go_loopw [5, 0] (fun lv bv_ wr => ∃ (L : List (List UInt8)) (pl : Option Addr) (cl : Nat) (y : List UInt8) (py : Option Addr) (cy f : Nat), lv = .slice pl L.length cl ∧ bv_ = .slice py y.length cy ∧ y.length ≤ x.length ∧ cy ≤ 9223372036854775807 ∧ L.length * 64 + y.length ≤ x.length ∧ y.length < f ∧ Hid (L ++ framesOf f y gen L.length = framesOf (x.length + 1) x gen 0) ∧ Hid (BytesAt w bv_ y) ∧ Hid (OwnE w wr lv L) ∧ Hid (Keeps (fun _ => False) w wr)) (fun _ bv_ _ => match bv_ with | .slice _ n _ => n | _ => 0)
  case atStart => exact ⟨[], none, 0, x, p, c, x.length + 1, rfl, rfl, Nat.le_refl _, hcm, by simp, by omega, Lib.hid rfl, hv, Lib.hid (OwnE.nil _ _ (Nat.le_refl _)), Lib.hid (Keeps.refl _ _)⟩
  case round =>
    obtain ⟨L, pl, cl, y, py, cy, f, rfl, rfl, hyx, hcy, hLy, hyf, hL, hB, hE, hK⟩ := hrel
    obtain ⟨f, rfl⟩ : ∃ f', f = f' + 1 := ⟨f - 1, by omega⟩
    have hR := Lib.hid (readFrame_b py cy y gen L.length hg (by omega) wr (hB.out.keep hK.out) (by omega) hcy)
    obtain ⟨r, hr⟩ : ∃ r, frameOf y gen L.length = r := ⟨_, rfl⟩
    rw [hr] at hR
    have hr' := Lib.hid hr
    have hlen64 : L.length ≤ 1000000 := by omega
    clear hr
    go_wp2_with fail
    refine hR.out.mono ?_
    clear hR
    cases r with
    | none =>
      rintro e w2 ⟨k2, rfl⟩
      have hfin : Hid (L = framesOf (x.length + 1) x gen 0) := Lib.hid (by
        rw [← hL.out]
        have e : framesOf (f + 1) y gen L.length = [] := by unfold framesOf; rw [hr'.out]
        rw [e, List.append_nil])
      have hE2 := Lib.hid (hE.out.keep k2)
      have hK2 := Lib.hid (hK.out.trans k2)
      clear k2 hE hK hB hL
      go_wp2_with fail
      go_ret
      exact ⟨pl, cl, by rw [← hfin.out]; rfl, by rw [← hfin.out]; exact hE2.out, hK2.out⟩
    | some l =>
      rintro e w2 ⟨k2, v2, rfl, hO2⟩
      obtain ⟨q1, q2, q3, q4⟩ := frameOf_len hr'.out
      obtain ⟨pv, cv, rfl⟩ := hO2.slice
      have hO2' := Lib.hid (hO2.older (w0 := w) hK.out.size)
      have hE2 := Lib.hid (hE.out.keep k2)
      have hB2 := hB
      have hK2 := Lib.hid (hK.out.trans k2)
      clear k2 hO2 hE hK hB
      obtain ⟨vs, hvs, hOv, hvb⟩ := hE2.out
      have hvs' := Lib.hid hvs
      have hOv' := Lib.hid hOv
      have hvb' := Lib.hid hvb
      clear hvs hOv hvb
      obtain ⟨gy, oy, hpy, hcy2, -⟩ := hB2.out.open (by omega)
      subst hpy
      have hFr := Lib.hid (hB2.out.from (takes l.length * 64) q1)
      obtain ⟨T, hT⟩ : ∃ T, takes l.length = T := ⟨_, rfl⟩
      rw [hT] at hFr q1
      have hT1 : 1 ≤ T := by rw [← hT]; unfold takes; omega
      have hTk := Lib.hid (fun W => takes_any l.length (by omega) W)
      have hstep : Hid ((L ++ [l]) ++ framesOf f (y.drop (T * 64)) gen (L ++ [l]).length = framesOf (x.length + 1) x gen 0) := Lib.hid (by
        rw [← hL.out, List.append_assoc]
        congr 1
        have e : framesOf (f + 1) y gen L.length = l :: framesOf f (y.drop (T * 64)) gen (L.length + 1) := by
          show (match frameOf y gen L.length with | none => [] | some l => l :: framesOf f (y.drop (takes l.length * 64)) gen (L.length + 1)) = _
          rw [hr'.out]; simp only [hT]
        rw [e, List.length_append]; rfl)
      rw [hT] at hTk
      obtain ⟨pp, hpp⟩ : ∃ pp, (if cy = T * 64 then some (⟨gy, oy, none⟩ : Addr) else some (⟨gy, oy + T * 64, none⟩ : Addr)) = pp := ⟨_, rfl⟩
      rw [hpp] at hFr
      have hOk := Lib.hid (hOv'.out.keep ((Keeps.refl (fun _ => False) _).alloc (.cells #[.slice pv l.length cv] 27)) (fun _ _ f => f))
      have l1 : (0 : Int) ≤ (T : Int) * 64 := by omega
      have l2 : (T : Int) * 64 ≤ (cy : Int) := by omega
      have l3 : (T : Int) * 64 ≤ (y.length : Int) := by omega
      have l4 : ((T : Int) * 64).toNat = T * 64 := by omega
      have hvl : Hid (vs.length = L.length) := hvs'
      clear hT hL hr'
      go_wp2_with (first | ((with_reducible refine at_slot 22 ?_); go_must (refine wpList_append_r rfl (.tmp 19) (.tmp 21) 63 27 rfl i0 _ 24 Try.underlying63 hi0 hi1 hi2 hi3 rfl (by decide) (by decide) vv_len w _ L.length vs hvs'.out rfl hOk.out _ rfl (.slice pv l.length cv) (cells_new rfl [.slice pv l.length cv] _) vv_one (by omega) ?_); intro q8 d8 w8 hO8 hg8) | (go_at_call 42; refine (hTk.out _).mono ?_; rintro e w9 ⟨rfl, rfl⟩))
      have ka := (Keeps.refl (fun _ => False) w2).alloc (.cells #[.slice pv l.length cv] 27)
      have hE8 := OwnE.snoc hvs'.out hOk.out (fun i u z a b => (hvb'.out i u z a b).keep ka (fun _ _ f => f)) (hO2'.out.keep ka (fun _ _ f => f)) hO8.out hg8.out
      have hK8 := OwnR.keeps hOk.out (hK2.out.alloc (.cells #[.slice pv l.length cv] 27)) hg8.out
      exact ⟨⟨L ++ [l], q8, d8, y.drop (T * 64), pp, cy - T * 64, f, by simp, by rw [List.length_drop], by rw [List.length_drop]; omega, by omega, by rw [List.length_append, List.length_drop]; simp; omega, by rw [List.length_drop]; omega, hstep, hFr, Lib.hid hE8, Lib.hid hK8⟩, by show y.length - T * 64 < y.length; omega⟩
end Go.Proofs.Ytcmpbablmofofaa
