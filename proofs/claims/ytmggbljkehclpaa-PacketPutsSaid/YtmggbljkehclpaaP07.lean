/- LH -/
import Derived.Test.YtmggbljkehclpaaP06
set_option linter.unusedVariables false
set_option linter.unusedSimpArgs false
namespace Go.Proofs.Ytmggbljkehclpaa
open Go.RowKit
def b0q (l : LsaD) : List UInt8 :=
 if l.type = 1 then be 4 l.links.length ++ b0l l.links
 else if l.type = 2 then be 4 l.mask ++ bes l.routers
 else be 4 l.mask ++ be 4 (lo32 l.cost)
theorem h09 (w : World) (b o : Nat) (v : Value) (h : w.cell? ⟨b, o, none⟩ = some v) : (loadVar 74 ⟨b, o, none⟩).run Try.prog w = .ok v w := by simp [go_sem, h]
theorem g0s (w : World) (b o : Nat) (v : Value) (h : w.cell? ⟨b, o, none⟩ = some v) : (loadVar 23 ⟨b, o, none⟩).run Try.prog w = .ok v w := by simp [go_sem, h]
theorem f0y (w0 : World) (n : Nat) (hn : n < 4294967296) (w : World) (h : w0.heap.size ≤ w.heap.size) :
 Calls Try.prog 47 #[.slice none 0 0, .int .u32 n] w fun e w' => ∃ p c, e = .returned (.slice p 4 c) ∧ OwnB w0 w' (.slice p 4 c) (be 4 n) ∧ a03 (fun _ => False) w w' := by
 refine (e0y w0 _ [] n hn (by simp) _ (Hi (OwnB.nil w0 w h))).mono ?_
 rintro e w' ⟨p, c, rfl, hO, hg⟩
 rw [List.nil_append, show ([] : List UInt8).length + (be 4 n).length = 4 by simp [a08]] at hO
 exact ⟨p, c, by rw [show ([] : List UInt8).length + (be 4 n).length = 4 by simp [a08]], hO, hg.nil⟩
theorem hO4 {w0 W : World} {q : Option Addr} {d m : Nat} (h : Hid (OwnB w0 W (.slice q 4 d) (be 4 m))) : Hid (OwnB w0 W (.slice q 4 d) (be 4 m)) := h
theorem m0y {w : World} {v : Value} {ns : List Nat} (h : a0x w v ns) (h0 : 0 < ns.length) (j : Nat) (e : v.ownBlock = some j) : j < w.heap.size ∧ True := by
 obtain ⟨p, c, rfl, -, -, hr⟩ := h
 obtain ⟨b, o, rfl, hra⟩ := hr h0
 simp only [Value.ownBlock, Option.some.injEq] at e
 subst e
 have := hra 0 (nv ns[0]) (by rw [List.getElem?_map, List.getElem?_eq_getElem h0]; rfl)
 exact ⟨World.block_lt_of_cell? w _ this, trivial⟩
set_option maxRecDepth 100000 in
set_option maxHeartbeats 4000000 in
theorem q01 (age type seq cost : Int) (id adv mask : Nat) (links : List b09) (routers : List Nat) (p5 p7 : Option Addr) (c5 c7 : Nat) (B : List UInt8) (w : World)
 (hl : Hid (b03 w (.slice p5 links.length c5) links)) (hr : Hid (a0x w (.slice p7 routers.length c7) routers)) (hlen : links.length ≤ 1000) (hlen2 : routers.length ≤ 1000) (hlok : Hid (∀ l ∈ links, l.ok)) (hrok : Hid (h0g routers)) (hm : mask < 4294967296)
 (hB : Hid (b0q ⟨age, type, id, adv, seq, links, mask, routers, cost⟩ = B)) :
 Calls Try.prog 72 #[.agg (La age type id adv seq (.slice p5 links.length c5) mask (.slice p7 routers.length c7) cost)] w (i0s B w) := by
 obtain ⟨cs, hcs⟩ : ∃ cs : List Value, cs = (La' age type id adv seq (.slice p5 links.length c5) mask (.slice p7 routers.length c7) cost) := ⟨_, rfl⟩
 have hBx : Hid (c02 w.heap.size cs (w.alloc (.cells (La age type id adv seq (.slice p5 links.length c5) mask (.slice p7 routers.length c7) cost) 76)) (w.alloc (.cells (La age type id adv seq (.slice p5 links.length c5) mask (.slice p7 routers.length c7) cost) 76))) := Hi (by rw [hcs]; exact c0s w _ _)
 have hsz : Hid (w.heap.size < (w.alloc (.cells (La age type id adv seq (.slice p5 links.length c5) mask (.slice p7 routers.length c7) cost) 76)).heap.size) := Hi (by simp)
 have hwB : Hid (a03 (fun _ => False) w (w.alloc (.cells (La age type id adv seq (.slice p5 links.length c5) mask (.slice p7 routers.length c7) cost) 76))) := Hi ((a03.refl _ _).alloc _)
 have hcs' := Hi hcs; clear hcs
 have hq := hB.out
 unfold b0q at hq
 simp only at hq
 by_cases t1 : type = 1
 ·subst t1
  rw [if_pos rfl] at hq
  have hq' := Hi hq; clear hq hB
  go_enter Try.func72, Try.ntmps72
  go_wp2_with fail
  refine (k0s _ links hlen hlok _ (Hi (hl.out.keep hwB.out))).mono ?_
  rintro e w2 ⟨p, c, rfl, hO, hk⟩
  rw [hq'.out] at hO ⊢
  have hO' := Hi hO; have hk' := Hi hk
  clear hO hk
  go_wp2_with fail
  go_ret
  exact ⟨p, c, rfl, hO'.out.older (by have := hsz.out; omega), hwB.out.trans hk'.out⟩
 ·rw [if_neg t1] at hq
  have d1 : (type == 1) = false := by rw [beq_eq_false_iff_ne]; exact t1
  by_cases t2 : type = 2
  ·subst t2
   rw [if_pos rfl] at hq
   have hq' := Hi hq; clear hq hB t1 d1
   go_enter Try.func72, Try.ntmps72
   go_upto_region 5 with fail
   generalize w.alloc (.cells (La age 2 id adv seq (.slice p5 links.length c5) mask (.slice p7 routers.length c7) cost) 76) = wB at hBx hsz hwB ⊢
   refine wp_region_noPanic ?_
   refine wp_region_held_drew (S := (fun W => c02 w.heap.size cs wB W)) (by kernel_rfl) (hBx.out.next ((a03.refl _ _).drew)) (fun hHeld => ?_)
   refine tk 0 rfl ?_
   refine tkL 1 rfl (a02 (by rfl) 22 (.tmp 13) rfl w.heap.size 6 rfl _ (fun _ s => s.cell 6 (.int .u32 mask) (by rw [hcs'.out]; rfl)) (fun w s => b04 w _ _ _ s)) ?_
   refine tk 3 rfl ?_
   refine tkL 4 rfl (a02 (by rfl) 23 (.tmp 16) rfl w.heap.size 7 rfl _ (fun _ s => s.cell 7 (.slice p7 routers.length c7) (by rw [hcs'.out]; rfl)) (fun w s => g0s w _ _ _ s)) ?_
   refine sL 2 rfl fun K hK => ?_
   go_simp
   (refine (f0y wB mask hm _ hHeld.k.size).mono ?_; rintro e W1 ⟨p1, d1, rfl, hO1, hg1⟩)
   go_wp2_with fail
   refine hK.out _ _ (hHeld.next hg1) (fun hHeld => ?_)
   clear hK K
   try simp only [Act.put, sA, sZ, sS]
   have hO1' := Hi hO1
   clear hO1 hg1
   refine sL 5 rfl fun K hK => ?_
   go_simp
   (refine (c0w wB _ (be 4 mask) _ routers hrok (by rw [a08]; omega) _ (hO4 hO1') (Hi (hr.out.keep (hwB.out.trans hHeld.k))) (Hi (fun h0 j e => by obtain ⟨h1, h2⟩ := m0y hr.out h0 j e; exact ⟨fun e2 => by have := hO1'.out.2.1 j e2; have := hsz.out; omega, Nat.lt_of_lt_of_le h1 (hwB.out.trans hHeld.k).size⟩))).mono ?_; rintro e W2 ⟨p2, d2, rfl, hO2, hg2⟩)
   go_wp2_with fail
   refine hK.out _ _ (hHeld.grow hsz.out hg2 hO1'.out.2.1) (fun hHeld => ?_)
   clear hK K
   try simp only [Act.put, sA, sZ, sS]
   refine tk 6 rfl ?_
   refine wpAnyH_done (by kernel_rfl) (NoPanic.normal ?_) _
   have hn : (be 4 mask).length + (bes routers).length = B.length := by rw [← hq'.out, List.length_append]
   rw [hn, hq'.out] at hO2
   rw [hn]
   have hO2' := Hi hO2; have hS2 := Hi hHeld
   clear hO2 hHeld hg2 hn
   go_wp2_with fail
   go_ret
   exact ⟨p2, d2, rfl, hO2'.out.older (by have := hsz.out; omega), hwB.out.trans hS2.out.k⟩
  ·rw [if_neg t2] at hq
   have d2 : (type == 2) = false := by rw [beq_eq_false_iff_ne]; exact t2
   have hq' := Hi hq; clear hq hB t1 t2
   obtain ⟨C, hC, lC, hCl⟩ := l0k cost
   go_enter Try.func72, Try.ntmps72
   go_upto_region 6 with fail
   generalize w.alloc (.cells (La age type id adv seq (.slice p5 links.length c5) mask (.slice p7 routers.length c7) cost) 76) = wB at hBx hsz hwB ⊢
   refine wp_region_noPanic ?_
   refine wp_region_held_drew (S := (fun W => c02 w.heap.size cs wB W)) (by kernel_rfl) (hBx.out.next ((a03.refl _ _).drew)) (fun hHeld => ?_)
   refine tk 0 rfl ?_
   refine tkL 1 rfl (a02 (by rfl) 22 (.tmp 19) rfl w.heap.size 6 rfl _ (fun _ s => s.cell 6 (.int .u32 mask) (by rw [hcs'.out]; rfl)) (fun w s => b04 w _ _ _ s)) ?_
   refine tk 3 rfl ?_
   refine tkL 4 rfl (a02 (by rfl) 3 (.tmp 22) rfl w.heap.size 8 rfl _ (fun _ s => s.cell 8 (.int .i64 cost) (by rw [hcs'.out]; rfl)) (fun w s => a0j w _ _ _ s)) ?_
   refine tk 5 rfl ?_
   refine sL 2 rfl fun K hK => ?_
   go_simp
   (refine (f0y wB mask hm _ hHeld.k.size).mono ?_; rintro e W1 ⟨p1, d1, rfl, hO1, hg1⟩)
   go_wp2_with fail
   refine hK.out _ _ (hHeld.next hg1) (fun hHeld => ?_)
   clear hK K
   try simp only [Act.put, sA, sZ, sS]
   have hO1' := Hi hO1
   clear hO1 hg1
   refine sL 6 rfl fun K hK => ?_
   go_simp
   (refine (e0y wB _ (be 4 mask) C lC (by rw [a08]; omega) _ (hO4 hO1')).mono ?_; rintro e W2 ⟨p2, d2', rfl, hO2, hg2⟩)
   go_wp2_with fail
   refine hK.out _ _ (hHeld.grow hsz.out hg2 hO1'.out.2.1) (fun hHeld => ?_)
   clear hK K
   try simp only [Act.put, sA, sZ, sS]
   refine tk 7 rfl ?_
   refine wpAnyH_done (by kernel_rfl) (NoPanic.normal ?_) _
   have hn : (be 4 mask).length + (be 4 C).length = B.length := by rw [← hq'.out, ← hCl.out, List.length_append]
   rw [hn, show be 4 mask ++ be 4 C = B by rw [← hq'.out, ← hCl.out]] at hO2
   rw [hn]
   have hO2' := Hi hO2; have hS2 := Hi hHeld
   clear hO2 hHeld hg2 hn
   go_wp2_with fail
   go_ret
   exact ⟨p2, d2', rfl, hO2'.out.older (by have := hsz.out; omega), hwB.out.trans hS2.out.k⟩
end Go.Proofs.Ytmggbljkehclpaa
