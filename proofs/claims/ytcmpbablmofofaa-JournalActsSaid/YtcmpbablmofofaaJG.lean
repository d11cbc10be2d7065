/- bytes.Equal, Clone, HasPrefix. -/
import Derived.Test.YtcmpbablmofofaaJE
import Derived.Laws.Cover3
namespace Go.Proofs.Ytcmpbablmofofaa
open Go.RowKit

theorem bytesEqual_any (a b : Value) (x y : List UInt8) (w : World) (ha : BytesAt w a x) (hb : BytesAt w b y) (hx : 0 < x.length) (hy : 0 < y.length) :
    Calls Try.prog 75 #[a, b] w fun e w' => e = .returned (.bool (x == y)) ∧ w = w' := by
  have h1 := conv_bytes ha hx
  have h2 := conv_bytes hb hy
  clear ha hb
  go_enter Try.func75, Try.ntmps75
  go_wp2
  go_ret
  exact ⟨rfl, rfl⟩

set_option maxRecDepth 100000 in
theorem bytesHasPrefix_any (g o c : Nat) (b : Value) (x y : List UInt8) (w : World) (hr : w.rangeAt g o (x.map bv)) (hc : x.length ≤ c) (hb : BytesAt w b y) (hy : 0 < y.length) :
    Calls Try.prog 76 #[.slice (some ⟨g, o, none⟩) x.length c, b] w fun e w' => e = .returned (.bool (x.take y.length == y)) ∧ w = w' := by
  obtain ⟨q, d, rfl, hb0⟩ := hb
  have hb' := Lib.hid (show BytesAt w (.slice q y.length d) y from ⟨q, d, rfl, hb0⟩)
  clear hb0
  by_cases hle : y.length ≤ x.length
  · have hyc : y.length ≤ c := by omega
    have hl : (x.take y.length).length = y.length := by simp; omega
    have ha : BytesAt w (.slice (some ⟨g, o, none⟩) y.length c) (x.take y.length) := by
      refine ⟨some ⟨g, o, none⟩, c, by rw [hl], (fun e => by cases e), by rw [hl]; exact hyc, fun _ => ⟨g, o, rfl, fun j u hu => ?_⟩⟩
      rw [List.map_take, List.getElem?_take] at hu
      split at hu
      · exact hr j u hu
      · cases hu
    have ha' := Lib.hid ha; clear ha
    have hl' := Lib.hid hl; clear hl hr
    go_enter Try.func76, Try.ntmps76
    go_wp2_with (go_at_call 75; refine (bytesEqual_any _ _ (x.take y.length) y _ ha'.out hb'.out (by rw [hl'.out]; exact hy) hy).mono ?_; rintro e w' ⟨rfl, rfl⟩)
    go_ret
    exact ⟨rfl, rfl⟩
  · have hne : (x.take y.length == y) = false := by
      rw [beq_eq_false_iff_ne]
      intro e
      have := congrArg List.length e
      simp at this; omega
    go_enter Try.func76, Try.ntmps76
    go_wp2
    go_ret
    exact ⟨by rw [hne]; rfl, rfl⟩
set_option maxRecDepth 100000 in
theorem bytesClone_any (a : Value) (x : List UInt8) (w : World) (ha : BytesAt w a x) (hx : 0 < x.length) (hl : x.length ≤ 1000000) :
    Calls Try.prog 62 #[a] w fun e w' => ∃ v, e = .returned v ∧ OwnB w w' v x ∧ Keeps (fun _ => False) w w' := by
  obtain ⟨i0, hi0, hz0, hz1, hz2⟩ := info_parts u8InfoAll
  obtain ⟨p, c, rfl, -, -, ha⟩ := ha
  obtain ⟨g, o, rfl, hr⟩ := ha hx
  clear ha
  have hr' := Lib.hid hr; clear hr
  have he := eql_nil ⟨g, o, none⟩ x.length c w
  go_enter Try.func62, Try.ntmps62
  go_wp2_with ((with_reducible refine at_slot 7 ?_); refine wpList_append_sep rfl (.tmp 5) (.tmp 6) 27 rfl 5 i0 (.int .u8 0) 1 1 Try.underlying27 hi0 hz0 hz1 hz2 rfl (by decide) _ 0 [] rfl (owns_empty w) ⟨g, o, none⟩ x.length c (x.map bv) rfl (by simp) (fun j u hu => by rw [Addr.add_mid]; exact ((Keeps.refl (fun _ => False) w).alloc _).rangeAt hr'.out id j u hu) (bv_one x) (by unfold maxLen; omega) (by omega) ?_; intro q d w1 ho1 hg1 hs1; have ho := Lib.hid ho1; clear ho1; have hg := Lib.hid hg1; clear hg1)
  go_ret
  refine ⟨_, rfl, ⟨by simpa using ho.out, fun k hk => ?_, ?_⟩, Keeps.grown ((Keeps.refl _ _).alloc _) hg.out (fun k e => ?_)⟩
  · have hk' : (Value.slice q (0 + x.length) d).ownBlock = some k := by rw [Nat.zero_add]; exact hk
    rcases hs1.out k hk' with h | h
    · have h : some w.heap.size = some k := h
      injection h with h; omega
    · simp at h; omega
  · exact (Keeps.grown (F := fun _ => False) ((Keeps.refl _ _).alloc _) hg.out (fun k e => by
      have e : some w.heap.size = some k := e
      injection e with e; exact .inr (by omega))).size
  · have e : some w.heap.size = some k := e
    injection e with e; exact .inr (by omega)
end Go.Proofs.Ytcmpbablmofofaa
