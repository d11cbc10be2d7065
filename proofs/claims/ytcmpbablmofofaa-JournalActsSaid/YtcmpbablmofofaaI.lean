/- Crash, Read, New, full. -/
import Derived.Test.YtcmpbablmofofaaH
namespace Go.Proofs.Ytcmpbablmofofaa
open Go.RowKit

theorem crash_nil (p : Option Addr) (m c : Nat) (w : World) : Calls Try.prog 11 #[.pointer none, .slice p m c] w fun e w' => e = .returned (.tuple #[]) ∧ Keeps (fun _ => False) w w' := by
  go_enter Try.func11, Try.ntmps11
  go_wp2
  exact bodyPost_ret (results_none rfl _ _ _) rfl ⟨rfl, (Keeps.refl _ _).alloc _⟩

theorem crash_goes (b : Nat) (p : Option Addr) (m c : Nat) (R : World → Prop) (w : World)
    (hs : Hid (Calls Try.prog 44 #[.pointer (some ⟨b, 0, none⟩), .func (.func 45) #[] #[.pointer (some ⟨w.heap.size, 0, none⟩)]] (w.alloc (.cells #[.slice p m c] 39)) fun e w' => e = .returned (.tuple #[]) ∧
      ((∃ o, w'.cell? ⟨b, 2, none⟩ = some o) ∧ (∃ o, w'.cell? ⟨b, 3, none⟩ = some o) ∧ w'.frozen? ⟨b, 2, none⟩ = false ∧ w'.frozen? ⟨b, 3, none⟩ = false) ∧ R ((w'.setCell ⟨b, 2, none⟩ (.bool true)).setCell ⟨b, 3, none⟩ (.int .i64 (-1))))) :
    Calls Try.prog 11 #[.pointer (some ⟨b, 0, none⟩), .slice p m c] w fun e w' => e = .returned (.tuple #[]) ∧ R w' := by
  go_enter Try.func11, Try.ntmps11
  go_wp2_with (go_at_call 44; refine hs.out.mono ?_; rintro e w' ⟨rfl, ⟨⟨o2, h2⟩, ⟨o3, h3⟩, f2, f3⟩, hR⟩)
  go_end0
  exact ⟨rfl, hR⟩

theorem crash_any (D : Dk) (v : Value) (w : World) (kv : Value) (kept : List Bool) (h : DiskMem w D v) (hk : BoolsAt w kv kept) (hsep : 0 < kept.length → ∀ k, kv.ownBlock = some k → k ≠ D.bs) :
    Calls Try.prog 11 #[.pointer (some ⟨D.b, 0, none⟩), kv] w fun e w' => e = .returned (.tuple #[]) ∧ After D v w (D.crash kept) w' := by
  have hk0 := hk
  obtain ⟨p, c, rfl, hm, hp⟩ := hk
  have hk1 : Keeps (fun _ => False) w (w.alloc (.cells #[.slice p kept.length c] 39)) := (Keeps.refl _ _).alloc _
  have h1 : DiskMem (w.alloc (.cells #[.slice p kept.length c] 39)) D v := h.keep hk1 (fun _ _ => id)
  have hb1 : BoolsAt (w.alloc (.cells #[.slice p kept.length c] 39)) (.slice p kept.length c) kept :=
    ⟨p, c, rfl, hm, fun h0 => by obtain ⟨b, o, e, hr⟩ := hp h0; exact ⟨b, o, e, World.rangeAt_alloc hr _⟩⟩
  have hbs := h.lt D.bs (.inr (.inl rfl))
  refine crash_goes D.b p kept.length c _ w (Lib.hid ((settle_crash_any D v _ w.heap.size _ kept h1 hb1 hsep (by omega) (by rw [cell_of_row _ _ _ _ _ _ (heap_alloc_last w _)]; rfl)).mono ?_))
  rintro e w' ⟨rfl, v', hm', hkk, hff⟩
  have hd := hm'.hd
  refine ⟨rfl, ⟨⟨_, hm'.c2⟩, ⟨_, hm'.c3⟩, hm'.fr 2, hm'.fr 3⟩, v', ?_, ?_, ?_⟩
  · have hd2 := heap_put (heap_put hd 2 (.bool true)) 3 (.int .i64 (-1))
    have hk2 : Keeps (fun k => k = D.b) w' ((w'.setCell ⟨D.b, 2, none⟩ (.bool true)).setCell ⟨D.b, 3, none⟩ (.int .i64 (-1))) :=
      ((Keeps.refl (fun k => k = D.b) w').setCell (p := ⟨D.b, 2, none⟩) (.inl rfl) _).setCell (p := ⟨D.b, 3, none⟩) (.inl rfl) _
    exact { hm' with
      hd := by simpa [Dk.crash, Dk.settle] using hd2
      secs := hm'.secs.keep hk2 (fun e => h.ne e.symm)
      ow := hk2.ownsRow hm'.ow (fun k hk' e => hm'.vb (by rw [hk', e]; rfl))
      l1 := by simp [Dk.crash]
      l2 := by simp [Dk.crash] }
  · exact (((hk1.mono (fun _ e => e.elim)).trans' hkk (fun k e => .inl e)).setCell (p := ⟨D.b, 2, none⟩) (.inl (.inl rfl)) _).setCell (p := ⟨D.b, 3, none⟩) (.inl (.inl rfl)) _
  · intro k e
    rcases hff k e with e | e
    · exact .inl e
    · exact .inr (Nat.le_trans hk1.size e)

theorem read_nil (i : Int) (w : World) : Calls Try.prog 12 #[.pointer none, .int .i64 i] w fun e w' => e = .returned (.tuple #[.slice none 0 0, .int .i64 1]) ∧ w = w' := by
  go_enter Try.func12, Try.ntmps12
  go_wp2
  go_ret2
  exact ⟨rfl, rfl⟩
theorem read_off (b : Nat) (i : Int) (w : World) (h2 : w.cell? ⟨b, 2, none⟩ = some (.bool false)) :
    Calls Try.prog 12 #[.pointer (some ⟨b, 0, none⟩), .int .i64 i] w fun e w' => e = .returned (.tuple #[.slice none 0 0, .int .i64 2]) ∧ w = w' := by
  go_enter Try.func12, Try.ntmps12
  go_wp2
  go_ret2
  exact ⟨rfl, rfl⟩
theorem read_out (b n : Nat) (q : Option Addr) (i : Int) (w : World) (hc : w.cell? ⟨b, 0, none⟩ = some (.slice q n n)) (h2 : w.cell? ⟨b, 2, none⟩ = some (.bool true)) (hi : Hid (¬ (0 ≤ i ∧ i < n))) :
    Calls Try.prog 12 #[.pointer (some ⟨b, 0, none⟩), .int .i64 i] w fun e w' => e = .returned (.tuple #[.slice none 0 0, .int .i64 1]) ∧ w = w' := by
  go_enter Try.func12, Try.ntmps12
  go_wp2_with (go_at_call 46; refine (has_no b n _ i _ hi.out hc).mono ?_; rintro e w' ⟨rfl, rfl⟩)
  go_ret2
  exact ⟨rfl, rfl⟩
set_option maxRecDepth 100000 in
theorem read_ok (b bs n i : Nat) (la : List Value) (w : World) (hi : i < n) (hc0 : w.cell? ⟨b, 0, none⟩ = some (.slice (some ⟨bs, 0, none⟩) n n))
   (hc2 : w.cell? ⟨b, 2, none⟩ = some (.bool true)) (hla : la.length = 64) (hr : Hid (w.rangeAt bs (i * 129 + 64) la)) (h1 : Hid (∀ v ∈ la, v.oneCell' = true)) :
    Calls Try.prog 12 #[.pointer (some ⟨b, 0, none⟩), .int .i64 i] w fun e w' =>
      e = .returned (.tuple #[.slice (some ⟨w.heap.size, 0, none⟩) 64 64, .int .i64 0]) ∧ w.alloc (.cells la.toArray 87) = w' := by
  go_enter Try.func12, Try.ntmps12
  go_wp2_with (first | (go_at_call 46; refine (has_yes b n _ i _ (by omega) (by omega) hc0).mono ?_; rintro e w' ⟨rfl, rfl⟩) | ((with_reducible refine at_slot 28 ?_); refine wpList_load_mid rfl 87 (.tmp 27) rfl bs (i * 129 + 64) ?c1 la _ ?c2 Try.underlying87 rfl ?c3 ?_) | ((with_reducible refine at_store 6 ?_); refine wpList_store_new rfl 87 (.tmp 6) (.tmp 28) rfl _ la.toArray ?d1 rfl ?d2 ?d3 ?d4 ?_))
  case c1 => rfl
  case c2 => exact hr.out
  case c3 => rw [hla]; exact arrInfo
  case d1 => rfl
  case d2 => rw [List.size_toArray, hla]; exact arrInfo
  case d3 => simp [hla]
  case d4 => exact all_oneCell_toArray h1.out
  go_ret2
  exact ⟨rfl, rfl⟩

def ReadOk (D : Dk) (w : World) (i : Nat) (e : Ending) (w' : World) : Prop :=
  e = .returned (.tuple #[.slice (some ⟨w.heap.size, 0, none⟩) 64 64, .int .i64 0]) ∧ w' = w.alloc (.cells ((D.la i).map bv).toArray 87)

theorem read_yes (D : Dk) (v : Value) (w : World) (i : Nat) (h : DiskMem w D v) (hon : D.on = true) (hi : i < D.n) :
    Calls Try.prog 12 #[.pointer (some ⟨D.b, 0, none⟩), .int .i64 i] w (ReadOk D w i) := by
  refine (read_ok D.b D.bs D.n i ((D.la i).map bv) w hi h.c0 (by rw [h.c2, hon]) (by rw [List.length_map, h.secs.lla i hi]) (Lib.hid (h.secs.rla i hi)) (Lib.hid (bv_one _))).mono ?_
  rintro e w' ⟨rfl, rfl⟩
  exact ⟨rfl, rfl⟩
theorem read_bad (D : Dk) (v : Value) (w : World) (i : Int) (h : DiskMem w D v) (hr : D.read i ≠ 0) :
    Calls Try.prog 12 #[.pointer (some ⟨D.b, 0, none⟩), .int .i64 i] w fun e w' => e = .returned (.tuple #[.slice none 0 0, .int .i64 (D.read i)]) ∧ w = w' := by
  by_cases hon : D.on = false
  · have e1 : D.read i = 2 := by simp [Dk.read, hon]
    rw [e1]; exact read_off D.b i w (by rw [h.c2, hon])
  · have hon : D.on = true := by simpa using hon
    by_cases hi : 0 ≤ i ∧ i < D.n
    · exfalso; apply hr; unfold Dk.read; rw [if_neg (by simp [hon]), if_neg (by simpa using hi)]
    · have e1 : D.read i = 1 := by unfold Dk.read; rw [if_neg (by simp [hon]), if_pos hi]
      rw [e1]; exact read_out D.b D.n _ i w h.c0 (by rw [h.c2, hon]) (Lib.hid hi)
end Go.Proofs.Ytcmpbablmofofaa
