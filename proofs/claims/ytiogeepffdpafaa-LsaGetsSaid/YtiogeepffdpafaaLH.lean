/- lsa.tell, walked. -/
import Derived.Test.YtiogeepffdpafaaLG
namespace Go.Proofs.Ytiogeepffdpafaa
open Go.RowKit

def tellB (l : LsaD) : List UInt8 :=
  if l.type = 1 then be 4 l.links.length ++ linksB l.links
  else if l.type = 2 then be 4 l.mask ++ bes l.routers
  else be 4 l.mask ++ be 4 (lo32 l.cost)
theorem load_links (w : World) (b o : Nat) (v : Value) (h : w.cell? ⟨b, o, none⟩ = some v) : (loadVar 34 ⟨b, o, none⟩).run Try.prog w = .ok v w := by simp [go_sem, h]
theorem load_u32s (w : World) (b o : Nat) (v : Value) (h : w.cell? ⟨b, o, none⟩ = some v) : (loadVar 26 ⟨b, o, none⟩).run Try.prog w = .ok v w := by simp [go_sem, h]

theorem wiLay32_nil (w0 : World) (n : Nat) (hn : n < 4294967296) (w : World) (h : w0.heap.size ≤ w.heap.size) :
    Calls Try.prog 97 #[.slice none 0 0, .int .u32 n] w fun e w' => ∃ p c, e = .returned (.slice p 4 c) ∧ OwnB w0 w' (.slice p 4 c) (be 4 n) ∧ Keeps (fun _ => False) w w' := by
  refine (wiLay32_any w0 _ [] n hn (by simp) _ (Lib.hid (OwnB.nil w0 w h))).mono ?_
  rintro e w' ⟨p, c, rfl, hO, hg⟩
  rw [List.nil_append, show ([] : List UInt8).length + (be 4 n).length = 4 by simp [be_len]] at hO
  exact ⟨p, c, by rw [show ([] : List UInt8).length + (be 4 n).length = 4 by simp [be_len]], hO, hg.nil⟩
theorem hO4 {w0 W : World} {q : Option Addr} {d m : Nat} (h : Hid (OwnB w0 W (.slice q 4 d) (be 4 m))) : Hid (OwnB w0 W (.slice q 4 d) (be 4 m)) := h
theorem old_block {w : World} {v : Value} {ns : List Nat} (h : NumsAt w v ns) (h0 : 0 < ns.length) (j : Nat) (e : v.ownBlock = some j) : j < w.heap.size ∧ True := by
  obtain ⟨p, c, rfl, -, -, hr⟩ := h
  obtain ⟨b, o, rfl, hra⟩ := hr h0
  simp only [Value.ownBlock, Option.some.injEq] at e
  subst e
  have := hra 0 (nv ns[0]) (by rw [List.getElem?_map, List.getElem?_eq_getElem h0]; rfl)
  exact ⟨World.block_lt_of_cell? w _ this, trivial⟩
set_option maxRecDepth 100000 in
set_option maxHeartbeats 4000000 in
theorem lsTell_any (age type seq cost : Int) (id adv mask : Nat) (links : List LinkD) (routers : List Nat) (p5 p7 : Option Addr) (c5 c7 : Nat) (B : List UInt8) (w : World)
    (hl : Hid (LinksAt w (.slice p5 links.length c5) links)) (hr : Hid (NumsAt w (.slice p7 routers.length c7) routers)) (hlen : links.length ≤ 1000) (hlen2 : routers.length ≤ 1000) (hlok : Hid (∀ l ∈ links, l.ok)) (hrok : Hid (Small routers)) (hm : mask < 4294967296)
    (hB : Hid (tellB ⟨age, type, id, adv, seq, links, mask, routers, cost⟩ = B)) :
    Calls Try.prog 57 #[.agg #[.int .i64 age, .int .i64 type, .int .u32 id, .int .u32 adv, .int .i64 seq, .slice p5 links.length c5, .int .u32 mask, .slice p7 routers.length c7, .int .i64 cost]] w (NewOwn B w) := by
  obtain ⟨cs, hcs⟩ : ∃ cs : List Value, cs = [.int .i64 age, .int .i64 type, .int .u32 id, .int .u32 adv, .int .i64 seq, .slice p5 links.length c5, .int .u32 mask, .slice p7 routers.length c7, .int .i64 cost] := ⟨_, rfl⟩
  have hBx : Hid (Boxed w.heap.size cs (w.alloc (.cells #[.int .i64 age, .int .i64 type, .int .u32 id, .int .u32 adv, .int .i64 seq, .slice p5 links.length c5, .int .u32 mask, .slice p7 routers.length c7, .int .i64 cost] 36)) (w.alloc (.cells #[.int .i64 age, .int .i64 type, .int .u32 id, .int .u32 adv, .int .i64 seq, .slice p5 links.length c5, .int .u32 mask, .slice p7 routers.length c7, .int .i64 cost] 36))) := Lib.hid (by rw [hcs]; exact boxed_new0 w _ _)
  have hsz : Hid (w.heap.size < (w.alloc (.cells #[.int .i64 age, .int .i64 type, .int .u32 id, .int .u32 adv, .int .i64 seq, .slice p5 links.length c5, .int .u32 mask, .slice p7 routers.length c7, .int .i64 cost] 36)).heap.size) := Lib.hid (by simp)
  have hwB : Hid (Keeps (fun _ => False) w (w.alloc (.cells #[.int .i64 age, .int .i64 type, .int .u32 id, .int .u32 adv, .int .i64 seq, .slice p5 links.length c5, .int .u32 mask, .slice p7 routers.length c7, .int .i64 cost] 36))) := Lib.hid ((Keeps.refl _ _).alloc _)
  have hcs' := Lib.hid hcs; clear hcs
  have hq := hB.out
  unfold tellB at hq
  simp only at hq
  by_cases t1 : type = 1
  · subst t1
    rw [if_pos rfl] at hq
    have hq' := Lib.hid hq; clear hq hB
    go_enter Try.func57, Try.ntmps57
    go_wp2_with fail
    refine (lsLayLinks_any _ links hlen hlok _ (Lib.hid (hl.out.keep hwB.out))).mono ?_
    rintro e w2 ⟨p, c, rfl, hO, hk⟩
    rw [hq'.out] at hO ⊢
    have hO' := Lib.hid hO; have hk' := Lib.hid hk
    clear hO hk
    go_wp2_with fail
    go_ret
    exact ⟨p, c, rfl, hO'.out.older (by have := hsz.out; omega), hwB.out.trans hk'.out⟩
  · rw [if_neg t1] at hq
    have d1 : (type == 1) = false := by rw [beq_eq_false_iff_ne]; exact t1
    by_cases t2 : type = 2
    · subst t2
      rw [if_pos rfl] at hq
      have hq' := Lib.hid hq; clear hq hB t1 d1
      go_enter Try.func57, Try.ntmps57
      go_upto_region 5 with fail
      generalize w.alloc (.cells #[.int .i64 age, .int .i64 2, .int .u32 id, .int .u32 adv, .int .i64 seq, .slice p5 links.length c5, .int .u32 mask, .slice p7 routers.length c7, .int .i64 cost] 36) = wB at hBx hsz hwB ⊢
      refine wp_region_noPanic ?_
      refine wp_region_held_drew (S := (fun W => Boxed w.heap.size cs wB W)) (by kernel_rfl) (hBx.out.next ((Keeps.refl _ _).drew)) (fun hHeld => ?_)
      refine takeL 0 (v := ?_) rfl (by kernel_rfl) (by kernel_rfl) (by kernel_rfl) (fun _ _ _ h => h) (Or.inl ⟨by rfl, ?_⟩) (by assumption) ?_
      rotate_left
      · (intro wS hSw; go_simp; try with_reducible rfl)
      try simp only [Act.put, List.setIfInBounds_toArray, List.set_cons_zero, List.set_cons_succ]
      refine takeL 1 rfl (by kernel_rfl) (by kernel_rfl) (by kernel_rfl) (fun _ _ _ h => h) (yieldsIf_load_cell (by rfl) 22 (.tmp 13) rfl w.heap.size 6 rfl _ (fun _ s => s.cell 6 (.int .u32 mask) (by rw [hcs'.out]; rfl)) (fun w s => load_u32 w _ _ _ s)) (by assumption) ?_
      try simp only [Act.put, List.setIfInBounds_toArray, List.set_cons_zero, List.set_cons_succ]
      refine takeL 3 (v := ?_) rfl (by kernel_rfl) (by kernel_rfl) (by kernel_rfl) (fun _ _ _ h => h) (Or.inl ⟨by rfl, ?_⟩) (by assumption) ?_
      rotate_left
      · (intro wS hSw; go_simp; try with_reducible rfl)
      try simp only [Act.put, List.setIfInBounds_toArray, List.set_cons_zero, List.set_cons_succ]
      refine takeL 4 rfl (by kernel_rfl) (by kernel_rfl) (by kernel_rfl) (fun _ _ _ h => h) (yieldsIf_load_cell (by rfl) 26 (.tmp 16) rfl w.heap.size 7 rfl _ (fun _ s => s.cell 7 (.slice p7 routers.length c7) (by rw [hcs'.out]; rfl)) (fun w s => load_u32s w _ _ _ s)) (by assumption) ?_
      try simp only [Act.put, List.setIfInBounds_toArray, List.set_cons_zero, List.set_cons_succ]
      refine stepL 2 rfl (by kernel_rfl) (fun K hK => ?_)
      go_simp
      (refine (wiLay32_nil wB mask hm _ hHeld.k.size).mono ?_; rintro e W1 ⟨p1, d1, rfl, hO1, hg1⟩)
      go_wp2_with fail
      refine hK.out _ _ (hHeld.next hg1) (fun hHeld => ?_)
      clear hK K
      try simp only [Act.put, List.setIfInBounds_toArray, List.set_cons_zero, List.set_cons_succ]
      have hO1' := Lib.hid hO1
      clear hO1 hg1
      refine stepL 5 rfl (by kernel_rfl) (fun K hK => ?_)
      go_simp
      (refine (wiLayAll_any wB _ (be 4 mask) _ routers hrok (by rw [be_len]; omega) _ (hO4 hO1') (Lib.hid (hr.out.keep (hwB.out.trans hHeld.k))) (Lib.hid (fun h0 j e => by obtain ⟨h1, h2⟩ := old_block hr.out h0 j e; exact ⟨fun e2 => by have := hO1'.out.2.1 j e2; have := hsz.out; omega, Nat.lt_of_lt_of_le h1 (hwB.out.trans hHeld.k).size⟩))).mono ?_; rintro e W2 ⟨p2, d2, rfl, hO2, hg2⟩)
      go_wp2_with fail
      refine hK.out _ _ (hHeld.grow hsz.out hg2 hO1'.out.2.1) (fun hHeld => ?_)
      clear hK K
      try simp only [Act.put, List.setIfInBounds_toArray, List.set_cons_zero, List.set_cons_succ]
      refine takeL 6 (v := ?_) rfl (by kernel_rfl) (by kernel_rfl) (by kernel_rfl) (fun _ _ _ h => h) (Or.inl ⟨by rfl, ?_⟩) (by assumption) ?_
      rotate_left
      · (intro wS hSw; go_simp; try with_reducible rfl)
      try simp only [Act.put, List.setIfInBounds_toArray, List.set_cons_zero, List.set_cons_succ]
      refine wpAnyH_done (by kernel_rfl) (NoPanic.normal ?_) _
      have hn : (be 4 mask).length + (bes routers).length = B.length := by rw [← hq'.out, List.length_append]
      rw [hn, hq'.out] at hO2
      rw [hn]
      have hO2' := Lib.hid hO2; have hS2 := Lib.hid hHeld
      clear hO2 hHeld hg2 hn
      go_wp2_with fail
      go_ret
      exact ⟨p2, d2, rfl, hO2'.out.older (by have := hsz.out; omega), hwB.out.trans hS2.out.k⟩
    · rw [if_neg t2] at hq
      have d2 : (type == 2) = false := by rw [beq_eq_false_iff_ne]; exact t2
      have hq' := Lib.hid hq; clear hq hB t1 t2
      obtain ⟨C, hC, lC, hCl⟩ := u32_nat cost
      go_enter Try.func57, Try.ntmps57
      go_upto_region 6 with fail
      generalize w.alloc (.cells #[.int .i64 age, .int .i64 type, .int .u32 id, .int .u32 adv, .int .i64 seq, .slice p5 links.length c5, .int .u32 mask, .slice p7 routers.length c7, .int .i64 cost] 36) = wB at hBx hsz hwB ⊢
      refine wp_region_noPanic ?_
      refine wp_region_held_drew (S := (fun W => Boxed w.heap.size cs wB W)) (by kernel_rfl) (hBx.out.next ((Keeps.refl _ _).drew)) (fun hHeld => ?_)
      refine takeL 0 (v := ?_) rfl (by kernel_rfl) (by kernel_rfl) (by kernel_rfl) (fun _ _ _ h => h) (Or.inl ⟨by rfl, ?_⟩) (by assumption) ?_
      rotate_left
      · (intro wS hSw; go_simp; try with_reducible rfl)
      try simp only [Act.put, List.setIfInBounds_toArray, List.set_cons_zero, List.set_cons_succ]
      refine takeL 1 rfl (by kernel_rfl) (by kernel_rfl) (by kernel_rfl) (fun _ _ _ h => h) (yieldsIf_load_cell (by rfl) 22 (.tmp 19) rfl w.heap.size 6 rfl _ (fun _ s => s.cell 6 (.int .u32 mask) (by rw [hcs'.out]; rfl)) (fun w s => load_u32 w _ _ _ s)) (by assumption) ?_
      try simp only [Act.put, List.setIfInBounds_toArray, List.set_cons_zero, List.set_cons_succ]
      refine takeL 3 (v := ?_) rfl (by kernel_rfl) (by kernel_rfl) (by kernel_rfl) (fun _ _ _ h => h) (Or.inl ⟨by rfl, ?_⟩) (by assumption) ?_
      rotate_left
      · (intro wS hSw; go_simp; try with_reducible rfl)
      try simp only [Act.put, List.setIfInBounds_toArray, List.set_cons_zero, List.set_cons_succ]
      refine takeL 4 rfl (by kernel_rfl) (by kernel_rfl) (by kernel_rfl) (fun _ _ _ h => h) (yieldsIf_load_cell (by rfl) 3 (.tmp 22) rfl w.heap.size 8 rfl _ (fun _ s => s.cell 8 (.int .i64 cost) (by rw [hcs'.out]; rfl)) (fun w s => load_int w _ _ _ s)) (by assumption) ?_
      try simp only [Act.put, List.setIfInBounds_toArray, List.set_cons_zero, List.set_cons_succ]
      refine takeL 5 (v := ?_) rfl (by kernel_rfl) (by kernel_rfl) (by kernel_rfl) (fun _ _ _ h => h) (Or.inl ⟨by rfl, ?_⟩) (by assumption) ?_
      rotate_left
      · (intro wS hSw; go_simp; try with_reducible rfl)
      try simp only [Act.put, List.setIfInBounds_toArray, List.set_cons_zero, List.set_cons_succ]
      refine stepL 2 rfl (by kernel_rfl) (fun K hK => ?_)
      go_simp
      (refine (wiLay32_nil wB mask hm _ hHeld.k.size).mono ?_; rintro e W1 ⟨p1, d1, rfl, hO1, hg1⟩)
      go_wp2_with fail
      refine hK.out _ _ (hHeld.next hg1) (fun hHeld => ?_)
      clear hK K
      try simp only [Act.put, List.setIfInBounds_toArray, List.set_cons_zero, List.set_cons_succ]
      have hO1' := Lib.hid hO1
      clear hO1 hg1
      refine stepL 6 rfl (by kernel_rfl) (fun K hK => ?_)
      go_simp
      (refine (wiLay32_any wB _ (be 4 mask) C lC (by rw [be_len]; omega) _ (hO4 hO1')).mono ?_; rintro e W2 ⟨p2, d2', rfl, hO2, hg2⟩)
      go_wp2_with fail
      refine hK.out _ _ (hHeld.grow hsz.out hg2 hO1'.out.2.1) (fun hHeld => ?_)
      clear hK K
      try simp only [Act.put, List.setIfInBounds_toArray, List.set_cons_zero, List.set_cons_succ]
      refine takeL 7 (v := ?_) rfl (by kernel_rfl) (by kernel_rfl) (by kernel_rfl) (fun _ _ _ h => h) (Or.inl ⟨by rfl, ?_⟩) (by assumption) ?_
      rotate_left
      · (intro wS hSw; go_simp; try with_reducible rfl)
      try simp only [Act.put, List.setIfInBounds_toArray, List.set_cons_zero, List.set_cons_succ]
      refine wpAnyH_done (by kernel_rfl) (NoPanic.normal ?_) _
      have hn : (be 4 mask).length + (be 4 C).length = B.length := by rw [← hq'.out, ← hCl.out, List.length_append]
      rw [hn, show be 4 mask ++ be 4 C = B by rw [← hq'.out, ← hCl.out]] at hO2
      rw [hn]
      have hO2' := Lib.hid hO2; have hS2 := Lib.hid hHeld
      clear hO2 hHeld hg2 hn
      go_wp2_with fail
      go_ret
      exact ⟨p2, d2', rfl, hO2'.out.older (by have := hsz.out; omega), hwB.out.trans hS2.out.k⟩
end Go.Proofs.Ytiogeepffdpafaa
