/- packet: layHeads, layKeys, walked. -/
import Derived.Test.YtdaongflpllfhaaLS23
set_option linter.unusedVariables false
set_option linter.unusedSimpArgs false
namespace Go.Proofs.Ytdaongflpllfhaa
open Go.RowKit

theorem Grown.keep {w w1 w2 : World} {v : Value} {p : Option Addr} {n c : Nat} (g : Grown w v p n c w1) (k : Keeps (fun _ => False) w1 w2) : Grown w v p n c w2 :=
  ⟨g.k.trans' k (fun _ f => f.elim), g.s⟩
def HeadD.ok (h : HeadD) : Prop := h.id < 4294967296 ∧ h.adv < 4294967296 ∧ h.sum < 65536
def KeyD.ok (h : KeyD) : Prop := h.id < 4294967296 ∧ h.adv < 4294967296
theorem hXn {w0 W : World} {q : Option Addr} {n d : Nat} {X : List UInt8} (h1 : X.length = n) (h : Hid (OwnB w0 W (.slice q n d) X)) : Hid (OwnB w0 W (.slice q n d) X) := h
theorem append_name2 {w0 W : World} {q : Option Addr} {d n m N : Nat} {X l Y : List UInt8} (hX : X.length = n) (hl : l.length = m) (hN : n + m = N) (hY : X ++ l = Y) (h : Hid (OwnB w0 W (.slice q (X.length + l.length) d) (X ++ l))) : Hid (OwnB w0 W (.slice q N d) Y) := by
  have := h.out
  rw [hY, hX, hl, hN] at this
  exact Lib.hid this

set_option maxRecDepth 100000 in
set_option maxHeartbeats 4000000 in
theorem pkLayHeads_any (w0 : World) (v : Value) (xs : List UInt8) (sv : Value) (hs : List HeadD) (hok : Hid (∀ h ∈ hs, h.ok)) (hx : xs.length + 20 * hs.length ≤ 1000000) (w : World) (h : Hid (OwnB w0 w v xs)) (hn : Hid (HeadsAt w sv hs)) (hsep : Hid (0 < hs.length → ∀ k, sv.ownBlock = some k → v.ownBlock ≠ some k ∧ k < w.heap.size)) :
    Calls Try.prog 76 #[v, sv] w (Appends w0 v xs (headsB hs) w) := by
  obtain ⟨i0, hi0, hz0, hz1, hz2⟩ := info_parts u8InfoAll
  obtain ⟨pv, cv, rfl⟩ := h.out.slice
  obtain ⟨p, c, rfl, -, -, hb⟩ := hn.out
  have hb' := Lib.hid hb; clear hb hn
  go_enter Try.func76, Try.ntmps76
  go_wp2
  go_loopw [0, 9] (fun bw iv wr => ∃ k : Nat, k ≤ hs.length ∧ iv = .int .i64 k ∧ Hid (∃ q d, bw = .slice q (xs.length + 20 * k) d ∧ OwnB w0 wr bw (xs ++ headsB (hs.take k)) ∧ Grown w (.slice pv xs.length cv) q (xs.length + 20 * k) d wr)) (fun _ iv _ => hs.length - (intOf iv).toNat)
  case atStart => exact ⟨0, by omega, rfl, Lib.hid ⟨pv, cv, rfl, by simpa [headsB] using h.out, Keeps.refl _ _, fun k e => .inl e⟩⟩
  case round =>
    obtain ⟨k, hk, rfl, hrow⟩ := hrel
    obtain ⟨q, d, rfl, hO, hG⟩ := hrow.out
    have hO' := Lib.hid hO; have hG' := Lib.hid hG
    clear hO hG hrow
    obtain ⟨X, hX⟩ : ∃ X, X = xs ++ headsB (hs.take k) := ⟨_, rfl⟩
    have hXl : X.length = xs.length + 20 * k := by rw [hX, List.length_append, headsB_len, List.length_take]; omega
    rw [← hX] at hO'
    by_cases hlk : k < hs.length
    · obtain ⟨g, o, rfl, hrows⟩ := hb'.out (by omega)
      obtain ⟨l, hll⟩ : ∃ l, hs[k]? = some l := ⟨_, List.getElem?_eq_getElem hlk⟩
      have hrow : Hid (wr.rangeAt g (o + k * 7) [.int .i64 l.age, .int .i64 l.type, .int .u32 l.id, .int .u32 l.adv, .int .i64 l.seq, .int .u16 l.sum, .int .i64 l.len]) := Lib.hid (hG'.out.k.rangeAt (hrows k l hll) (fun e => (hsep.out (by omega) g rfl).1 e))
      have hlok := hok.out l (List.mem_of_getElem? hll)
      have hsn := headsB_snoc (hs.take k) l
      have htk : hs.take (k + 1) = hs.take k ++ [l] := by
        rw [List.take_succ_eq_append_getElem hlk]
        rw [List.getElem?_eq_getElem hlk] at hll; injection hll with hll; rw [hll]
      rw [← htk] at hsn
      have hnext : Hid (xs ++ headsB (hs.take (k + 1)) = X ++ headB l) := Lib.hid (by rw [hsn, hX, List.append_assoc])
      have hXl' := Lib.hid hXl
      obtain ⟨l1, l2, l3⟩ := hlok
      clear hsn htk hX hll hrows hXl
      obtain ⟨age, type, lid, adv, seq, sum, len⟩ := l
      simp only at l1 l2 l3 hrow
      have hBx : Hid ((wr.alloc (.cells #[.int .i64 age, .int .i64 type, .int .u32 lid, .int .u32 adv, .int .i64 seq, .int .u16 sum, .int .i64 len] 82)).rangeAt wr.heap.size 0 [.int .i64 age, .int .i64 type, .int .u32 lid, .int .u32 adv, .int .i64 seq, .int .u16 sum, .int .i64 len]) := Lib.hid (new_rangeb wr _ 82)
      have hOb := Lib.hid (hO'.out.keep ((Keeps.refl (fun _ => False) _).alloc (.cells #[.int .i64 age, .int .i64 type, .int .u32 lid, .int .u32 adv, .int .i64 seq, .int .u16 sum, .int .i64 len] 82)) (fun _ _ f => f))
      have hGb := Lib.hid (hG'.out.keep ((Keeps.refl (fun _ => False) _).alloc (.cells #[.int .i64 age, .int .i64 type, .int .u32 lid, .int .u32 adv, .int .i64 seq, .int .u16 sum, .int .i64 len] 82)))
      go_wp2_with (first | ((with_reducible refine at_slot 12 ?_); refine wpList_load_mid rfl 82 (.tmp 11) rfl g (o + k * 7) rfl _ _ hrow.out Try.underlying82 rfl headInfo ?_) | ((with_reducible refine at_store 6 ?_); refine wpList_store_new rfl 82 (.tmp 6) (.tmp 12) rfl _ #[.int .i64 age, .int .i64 type, .int .u32 lid, .int .u32 adv, .int .i64 seq, .int .u16 sum, .int .i64 len] rfl rfl headInfo rfl (head_one _ _ _ _ _ _ _) ?_) | ((with_reducible refine at_slot 14 ?_); refine wpList_load_mid rfl 82 (.tmp 6) rfl wr.heap.size 0 rfl _ _ hBx.out Try.underlying82 rfl headInfo ?_))
      refine (lsPutHeader_any age type seq len lid adv sum l1 l2 l3 _).mono ?_
      rintro e w2 ⟨p2, c2, rfl, hO2, k2⟩
      have hhl := headB_len ⟨age, type, lid, adv, seq, sum, len⟩
      rw [hhl] at hO2
      rw [hhl]
      have hOc := Lib.hid (hOb.out.keep k2 (fun _ _ f => f))
      have hGc := Lib.hid (hGb.out.keep k2)
      have hsrc := Lib.hid hO2.bytes
      have hhl' := Lib.hid hhl
      clear hO2 k2 hOb hGb hBx hrow hO' hhl
      go_wp2_with ((with_reducible refine at_slot 16 ?_); go_must (refine wpList_append_b rfl (.tmp 13) (.tmp 15) 71 rfl i0 Try.underlying71 hi0 hz0 hz1 hz2 w0 _ X rfl (hXn hXl'.out hOc).out _ rfl (headB ⟨age, type, lid, adv, seq, sum, len⟩) hsrc.out (by rw [hXl'.out, hhl'.out]; omega) ?_; intro q3 d3 w3 hO3 hg3; have hO4 := append_name2 hXl'.out hhl'.out (show xs.length + 20 * k + 20 = xs.length + 20 * (k + 1) by omega) hnext.out.symm hO3; have hee : X.length + (headB ⟨age, type, lid, adv, seq, sum, len⟩).length = xs.length + 20 * (k + 1) := (by have := hXl'.out; have := hhl'.out; omega); rw [hee] at hg3 ⊢; have hg4 := Lib.hid (hGc.out.trans hg3.out); clear hO3 hg3 hOc hGc hee))
      exact ⟨⟨k + 1, by omega, by go_num, Lib.hid ⟨q3, d3, rfl, hO4.out, hg4.out⟩⟩, by simp [intOf]; omega⟩
    · obtain rfl : k = hs.length := by omega
      rw [List.take_length] at hX
      have hX' := Lib.hid hX
      clear hX hXl
      go_wp2
      go_ret
      have hn2 := headsB_len hs
      exact ⟨q, d, by rw [hn2]; rfl, by rw [hn2, ← hX'.out]; exact hO'.out, by rw [hn2]; exact hG'.out⟩

set_option maxRecDepth 100000 in
set_option maxHeartbeats 4000000 in
theorem pkLayKeys_any (sv : Value) (hs : List KeyD) (hok : Hid (∀ h ∈ hs, h.ok)) (hx : hs.length ≤ 1000) (w : World) (hn : Hid (KeysAt w sv hs)) :
    Calls Try.prog 78 #[sv] w (NewOwn (keysB hs) w) := by
  obtain ⟨p, c, rfl, -, -, hb⟩ := hn.out
  have hb' := Lib.hid hb; clear hb hn
  go_enter Try.func78, Try.ntmps78
  go_wp2
  go_loopw [3, 8] (fun bw iv wr => ∃ k : Nat, k ≤ hs.length ∧ iv = .int .i64 k ∧ Hid (∃ q d, bw = .slice q (12 * k) d ∧ OwnB w wr bw (keysB (hs.take k)) ∧ Keeps (fun _ => False) w wr)) (fun _ iv _ => hs.length - (intOf iv).toNat)
  case atStart => exact ⟨0, by omega, rfl, Lib.hid ⟨none, 0, rfl, by simpa [keysB] using OwnB.nil w w (Nat.le_refl _), Keeps.refl _ _⟩⟩
  case round =>
    obtain ⟨k, hk, rfl, hrow⟩ := hrel
    obtain ⟨q, d, rfl, hO, hG⟩ := hrow.out
    have hO' := Lib.hid hO; have hG' := Lib.hid hG
    clear hO hG hrow
    obtain ⟨X, hX⟩ : ∃ X, X = keysB (hs.take k) := ⟨_, rfl⟩
    have hXl : X.length = 12 * k := by rw [hX, keysB_len, List.length_take]; omega
    rw [← hX] at hO'
    by_cases hlk : k < hs.length
    · obtain ⟨g, o, rfl, hrows⟩ := hb'.out (by omega)
      obtain ⟨l, hll⟩ : ∃ l, hs[k]? = some l := ⟨_, List.getElem?_eq_getElem hlk⟩
      have hrow : Hid (wr.rangeAt g (o + k * 3) [.int .i64 l.type, .int .u32 l.id, .int .u32 l.adv]) := Lib.hid (hG'.out.rangeAt (hrows k l hll) id)
      have hlok := hok.out l (List.mem_of_getElem? hll)
      have hsn := keysB_snoc (hs.take k) l
      have htk : hs.take (k + 1) = hs.take k ++ [l] := by
        rw [List.take_succ_eq_append_getElem hlk]
        rw [List.getElem?_eq_getElem hlk] at hll; injection hll with hll; rw [hll]
      rw [← htk] at hsn
      have hnext : Hid (keysB (hs.take (k + 1)) = X ++ keyB l) := Lib.hid (by rw [hsn, hX])
      have hXl' := Lib.hid hXl
      obtain ⟨l1, l2⟩ := hlok
      clear hsn htk hX hll hrows hXl
      obtain ⟨type, lid, adv⟩ := l
      simp only at l1 l2 hrow
      obtain ⟨T, hT, lT, hTl⟩ := u32_nat type
      have hBx : Hid ((wr.alloc (.cells #[.int .i64 type, .int .u32 lid, .int .u32 adv] 25)).rangeAt wr.heap.size 0 [.int .i64 type, .int .u32 lid, .int .u32 adv]) := Lib.hid (new_rangeb wr _ 25)
      have hOb := Lib.hid (hO'.out.keep ((Keeps.refl (fun _ => False) _).alloc (.cells #[.int .i64 type, .int .u32 lid, .int .u32 adv] 25)) (fun _ _ f => f))
      have hkb := Lib.hid (hG'.out.alloc (.cells #[.int .i64 type, .int .u32 lid, .int .u32 adv] 25))
      go_upto_region 5 with (first | ((with_reducible refine at_slot 11 ?_); refine wpList_load_mid rfl 25 (.tmp 10) rfl g (o + k * 3) rfl _ _ hrow.out Try.underlying25 rfl keyInfo ?_) | ((with_reducible refine at_store 5 ?_); refine wpList_store_new rfl 25 (.tmp 5) (.tmp 11) rfl _ #[.int .i64 type, .int .u32 lid, .int .u32 adv] rfl rfl keyInfo rfl rfl ?_))
      generalize wr.alloc (.cells #[.int .i64 type, .int .u32 lid, .int .u32 adv] 25) = wb at hBx hOb hkb ⊢
      have b0 := rangeAt_cell hBx.out 0 (.int .i64 type) rfl
      have b1 := rangeAt_cell hBx.out 1 (.int .u32 lid) rfl
      have b2 := rangeAt_cell hBx.out 2 (.int .u32 adv) rfl
      go_wp2_with fail
      have hN : Hid (NumsAt (wb.alloc (.cells #[.int .u32 T, .int .u32 lid, .int .u32 adv] 23)) (.slice (some ⟨wb.heap.size, 0, none⟩) 3 3) [T, lid, adv]) := Lib.hid (NumsAt.new wb [T, lid, adv] rfl)
      have hOc := Lib.hid (hOb.out.keep ((Keeps.refl (fun _ => False) _).alloc (.cells #[.int .u32 T, .int .u32 lid, .int .u32 adv] 23)) (fun _ _ f => f))
      have hkc := Lib.hid (hkb.out.alloc (.cells #[.int .u32 T, .int .u32 lid, .int .u32 adv] 23))
      refine (wiLayAll_any w _ X _ [T, lid, adv] (Lib.hid (by intro n hn; simp at hn; rcases hn with rfl | rfl | rfl <;> assumption)) (by rw [hXl'.out]; simp; omega) _ (hXv hXl'.out hOc) hN (Lib.hid (fun _ j e => by
        simp only [Value.ownBlock, Option.some.injEq] at e
        subst e
        refine ⟨fun e => ?_, by simp⟩
        have := lt_own hOb.out _ e; omega))).mono ?_
      rintro e w2 ⟨q2, d2, rfl, hO2, hg2⟩
      have hn2 : X.length + (bes [T, lid, adv]).length = 12 * (k + 1) := by rw [hXl'.out, bes_len]; simp; omega
      have hkeyb : bes [T, lid, adv] = keyB ⟨type, lid, adv⟩ := by unfold keyB; simp only [← hTl.out, bes, List.flatMap_cons, List.flatMap_nil, List.append_nil, List.append_assoc]
      rw [hn2, hkeyb, ← hnext.out] at hO2
      rw [hn2] at hg2 ⊢
      have hk2 := Lib.hid (hOc.out.keeps hkc.out hg2)
      have hO2' := Lib.hid hO2
      clear hO2 hg2 hn2 hkeyb hN hOc hkc b0 b1 b2
      go_wp2_with fail
      exact ⟨⟨k + 1, by omega, by go_num, Lib.hid ⟨q2, d2, rfl, hO2'.out, hk2.out⟩⟩, by simp [intOf]; omega⟩
    · obtain rfl : k = hs.length := by omega
      rw [List.take_length] at hX
      have hX' := Lib.hid hX
      clear hX hXl
      go_wp2
      go_ret
      have hn2 := keysB_len hs
      exact ⟨q, d, by rw [hn2]; rfl, by rw [hn2, ← hX'.out]; exact hO'.out, hG'.out⟩
end Go.Proofs.Ytdaongflpllfhaa
/- packet: layGreeting, layLsas, walked. -/
namespace Go.Proofs.Ytdaongflpllfhaa
open Go.RowKit

theorem greetInfo : (Try.prog.info? 75).map (·.size) = some 7 := by kernel_rfl
set_option maxRecDepth 100000 in
set_option maxHeartbeats 4000000 in
theorem pkLayGreeting_any (mask dr bdr : Nat) (interval dead priority : Int) (nbs : List Nat) (pn : Option Addr) (cn : Nat) (B : List UInt8) (hm : mask < 4294967296) (hdr : dr < 4294967296) (hbdr : bdr < 4294967296) (hl : nbs.length ≤ 1000) (hs : Hid (Small nbs)) (w : World) (hn : Hid (NumsAt w (.slice pn nbs.length cn) nbs))
    (hB : Hid (be 4 mask ++ be 2 (lo16 interval) ++ [2, UInt8.ofNat (lo8 priority)] ++ be 4 (lo32 dead) ++ be 4 dr ++ be 4 bdr ++ bes nbs = B)) :
    Calls Try.prog 75 #[.agg #[.int .u32 mask, .int .i64 interval, .int .i64 dead, .int .i64 priority, .int .u32 dr, .int .u32 bdr, .slice pn nbs.length cn]] w (NewOwn B w) := by
  obtain ⟨i0, hi0, hz0, hz1, hz2⟩ := info_parts u8InfoAll
  obtain ⟨cs, hcs⟩ : ∃ cs : List Value, cs = [.int .u32 mask, .int .i64 interval, .int .i64 dead, .int .i64 priority, .int .u32 dr, .int .u32 bdr, .slice pn nbs.length cn] := ⟨_, rfl⟩
  have hBx : Hid (Boxed w.heap.size cs (w.alloc (.cells #[.int .u32 mask, .int .i64 interval, .int .i64 dead, .int .i64 priority, .int .u32 dr, .int .u32 bdr, .slice pn nbs.length cn] 75)) (w.alloc (.cells #[.int .u32 mask, .int .i64 interval, .int .i64 dead, .int .i64 priority, .int .u32 dr, .int .u32 bdr, .slice pn nbs.length cn] 75))) := Lib.hid (by rw [hcs]; exact boxed_new0 w _ _)
  have hsz : Hid (w.heap.size < (w.alloc (.cells #[.int .u32 mask, .int .i64 interval, .int .i64 dead, .int .i64 priority, .int .u32 dr, .int .u32 bdr, .slice pn nbs.length cn] 75)).heap.size) := Lib.hid (by simp)
  have hwB : Hid (Keeps (fun _ => False) w (w.alloc (.cells #[.int .u32 mask, .int .i64 interval, .int .i64 dead, .int .i64 priority, .int .u32 dr, .int .u32 bdr, .slice pn nbs.length cn] 75))) := Lib.hid ((Keeps.refl _ _).alloc _)
  have hcs' := Lib.hid hcs; clear hcs
  obtain ⟨I, hI, lI, hIl⟩ := u16_nat interval
  obtain ⟨D, hD, lD, hDl⟩ := u32_nat dead
  obtain ⟨T, hT, lT, hTl⟩ := u8_nat priority
  go_enter Try.func75, Try.ntmps75
  go_upto_region 1 with fail
  generalize w.alloc (.cells #[.int .u32 mask, .int .i64 interval, .int .i64 dead, .int .i64 priority, .int .u32 dr, .int .u32 bdr, .slice pn nbs.length cn] 75) = wB at hBx hsz hwB ⊢
  refine wp_region_noPanic ?_
  refine wp_region_held_drew (S := (fun W => Boxed w.heap.size cs wB W)) (by kernel_rfl) (hBx.out.next ((Keeps.refl _ _).drew)) (fun hHeld => ?_)
  refine tk 0 rfl ?_
  refine tkL 1 rfl (yieldsIf_load_cell (by rfl) 23 (.tmp 4) rfl w.heap.size 0 rfl _ (fun _ s => s.cell 0 (.int .u32 mask) (by rw [hcs'.out]; rfl)) (fun w s => load_u32 w _ _ _ s)) ?_
  refine tk 3 rfl ?_
  refine tkL 4 rfl (yieldsIf_load_cell (by rfl) 3 (.tmp 7) rfl w.heap.size 1 rfl _ (fun _ s => s.cell 1 (.int .i64 interval) (by rw [hcs'.out]; rfl)) (fun w s => load_int w _ _ _ s)) ?_
  refine tk 5 rfl ?_
  refine stepL 2 rfl (by kernel_rfl) (fun K hK => ?_)
  go_simp
  (refine (wiLay32_nil wB mask hm _ hHeld.k.size).mono ?_; rintro e W1 ⟨p1, d1, rfl, hO1, hg1⟩)
  go_wp2_with fail
  refine hK.out _ _ (hHeld.next hg1) (fun hHeld => ?_)
  clear hK K
  try simp only [Act.put, sA, sZ, sS]
  have hO1' := Lib.hid hO1
  clear hO1 hg1
  refine stepL 6 rfl (by kernel_rfl) (fun K hK => ?_)
  go_simp
  (refine (wiLay16_any wB _ (be 4 mask) I lI (by rw [be_len]; omega) _ (hO4 hO1')).mono ?_; rintro e W2 ⟨p2, d2, rfl, hO2, hg2⟩)
  go_wp2_with fail
  refine hK.out _ _ (hHeld.grow hsz.out hg2 hO1'.out.2.1) (fun hHeld => ?_)
  clear hK K
  try simp only [Act.put, sA, sZ, sS]
  refine tk 7 rfl ?_
  refine wpAnyH_done (by kernel_rfl) (NoPanic.normal ?_) _
  have hO2' := append_name2 (be_len 4 mask) (be_len 2 I) (show 4 + 2 = 6 from rfl) (rfl : be 4 mask ++ be 2 I = be 4 mask ++ be 2 I) (Lib.hid hO2)
  have hn2 : (be 4 mask).length + (be 2 I).length = 6 := by rw [be_len, be_len]
  rw [hn2]
  obtain ⟨X2, hX2⟩ : ∃ X, be 4 mask ++ be 2 I = X := ⟨_, rfl⟩
  have hX2l : X2.length = 6 := by rw [← hX2, List.length_append, hn2]
  rw [hX2] at hO2'
  have hX2' := Lib.hid hX2; have hX2l' := Lib.hid hX2l; have hS2 := Lib.hid hHeld
  clear hO2 hg2 hn2 hX2 hX2l hHeld hO1'
  have b3 := hS2.out.cell 3 (.int .i64 priority) (by rw [hcs'.out]; rfl)
  have hO3 := Lib.hid (hO2'.out.keep ((Keeps.refl (fun _ => False) _).alloc (.cells #[.int .u8 2, .int .u8 T] 5)) (fun _ _ f => f))
  have hS3 := Lib.hid (hS2.out.next ((Keeps.refl (fun _ => False) _).alloc (.cells #[.int .u8 2, .int .u8 T] 5)))
  have hsrc : Hid (BytesAt (W2.alloc (.cells #[.int .u8 2, .int .u8 T] 5)) (.slice (some ⟨W2.heap.size, 0, none⟩) 2 2) [2, UInt8.ofNat T]) := Lib.hid (by
    have := (OwnB.new W2 W2 (Nat.le_refl _) [2, UInt8.ofNat T] (n := 2) rfl (by unfold maxLen; omega)).bytes
    rw [List.map_cons, List.map_cons, List.map_nil, bv_lt T lT] at this
    exact this)
  go_upto_region 3 with ((with_reducible refine at_slot 16 ?_); refine wpList_append_b rfl (.tmp 11) (.tmp 15) 71 rfl i0 Try.underlying71 hi0 hz0 hz1 hz2 wB _ X2 rfl (hXn hX2l'.out hO3).out _ rfl [2, UInt8.ofNat T] hsrc.out (by rw [hX2l'.out]; simp) ?_; intro q4 d4 w4 hO4 hg4)
  obtain ⟨X4, hX4⟩ : ∃ X, X2 ++ [2, UInt8.ofNat T] = X := ⟨_, rfl⟩
  have hO4' := append_name2 hX2l'.out (show ([2, UInt8.ofNat T] : List UInt8).length = 2 from rfl) (show 6 + 2 = 8 from rfl) hX4 hO4
  have hn4 : X2.length + ([2, UInt8.ofNat T] : List UInt8).length = 8 := by rw [hX2l'.out]; rfl
  have hX4l : X4.length = 8 := by rw [← hX4, List.length_append, hn4]
  have hS4 := Lib.hid (hS3.out.grow hsz.out hg4.out hO3.out.2.1)
  rw [show X2.length + 2 = 8 by rw [hX2l'.out]]
  have hX4' := Lib.hid hX4; have hX4l' := Lib.hid hX4l
  clear hO4 hg4 hn4 hX4 hX4l hO3 hS3 hsrc hS2 b3 hO2'
  have c2 := hS4.out.cell 2 (.int .i64 dead) (by rw [hcs'.out]; rfl)
  have c4 := hS4.out.cell 4 (.int .u32 dr) (by rw [hcs'.out]; rfl)
  have c5 := hS4.out.cell 5 (.int .u32 bdr) (by rw [hcs'.out]; rfl)
  go_wp2_with fail
  have hN : Hid (NumsAt (w4.alloc (.cells #[.int .u32 D, .int .u32 dr, .int .u32 bdr] 23)) (.slice (some ⟨w4.heap.size, 0, none⟩) 3 3) [D, dr, bdr]) := Lib.hid (NumsAt.new w4 [D, dr, bdr] rfl)
  refine (wiLayAll_any wB _ X4 _ [D, dr, bdr] (Lib.hid (by intro n hn; simp at hn; rcases hn with rfl | rfl | rfl <;> assumption)) (by rw [hX4l'.out]; simp) _ (hXn hX4l'.out (Lib.hid (hO4'.out.keep ((Keeps.refl (fun _ => False) _).alloc _) (fun _ _ f => f)))) hN (Lib.hid (fun _ j e => by
    simp only [Value.ownBlock, Option.some.injEq] at e
    subst e
    refine ⟨fun e => ?_, by simp⟩
    have := lt_own hO4'.out _ e; omega))).mono ?_
  rintro e w5 ⟨q5, d5, rfl, hO5, hg5⟩
  have hS5 := Lib.hid ((hS4.out.next ((Keeps.refl (fun _ => False) _).alloc (.cells #[.int .u32 D, .int .u32 dr, .int .u32 bdr] 23))).grow hsz.out hg5 hO4'.out.2.1)
  obtain ⟨X5, hX5⟩ : ∃ X, X4 ++ bes [D, dr, bdr] = X := ⟨_, rfl⟩
  have hb3 : (bes [D, dr, bdr]).length = 12 := by rw [bes_len]; rfl
  have hO5' := append_name2 hX4l'.out hb3 (show 8 + 12 = 20 from rfl) hX5 (Lib.hid hO5)
  have hn5 : X4.length + (bes [D, dr, bdr]).length = 20 := by rw [hX4l'.out, hb3]
  have hX5l : X5.length = 20 := by rw [← hX5, List.length_append, hn5]
  rw [hn5]
  have hX5' := Lib.hid hX5; have hX5l' := Lib.hid hX5l
  clear hO5 hg5 hX5 hX5l hb3 hn5 hS4 hN c2 c4 c5 hO4'
  have e6 := hS5.out.cell 6 (.slice pn nbs.length cn) (by rw [hcs'.out]; rfl)
  go_wp2_with fail
  refine (wiLayAll_any wB _ X5 _ nbs hs (by rw [hX5l'.out]; omega) _ (hXn hX5l'.out hO5') (Lib.hid (hn.out.keep (hwB.out.trans hS5.out.k))) (Lib.hid (fun h0 j e => by obtain ⟨h1, h2⟩ := old_block hn.out h0 j e; exact ⟨fun e2 => by have := hO5'.out.2.1 j e2; have := hsz.out; omega, Nat.lt_of_lt_of_le h1 (hwB.out.trans hS5.out.k).size⟩))).mono ?_
  rintro e w6 ⟨q6, d6, rfl, hO6, hg6⟩
  have hfin : X5 ++ bes nbs = B := by
    rw [← hB.out, ← hX5'.out, ← hX4'.out, ← hX2'.out]
    simp only [← hIl.out, ← hTl.out, ← hDl.out, bes, List.flatMap_cons, List.flatMap_nil, List.append_nil, List.append_assoc]
  have hn6 : X5.length + (bes nbs).length = B.length := by rw [← hfin, List.length_append]
  rw [hfin, hn6] at hO6
  rw [hn6]
  have hS6 := Lib.hid (hS5.out.grow hsz.out hg6 hO5'.out.2.1)
  have hO6' := Lib.hid hO6
  clear hO6 hg6 hfin hn6 hS5 hO5' e6
  go_wp2_with fail
  go_ret
  exact ⟨q6, d6, rfl, hO6'.out.older (by have := hsz.out; omega), hwB.out.trans hS6.out.k⟩

/-- an Lsa whose numbers are of their sizes -/
structure LsaOk (l : LsaD) : Prop where
  links : ∀ x ∈ l.links, x.ok
  small : Small l.routers
  id : l.id < 4294967296
  adv : l.adv < 4294967296
  mask : l.mask < 4294967296
  ll : l.links.length ≤ 9223372036854775807
  rl : l.routers.length ≤ 9223372036854775807
theorem lsasB_len0 (ls : List LsaD) (h : ∀ l ∈ ls, canB l = true) (n : Nat) (hn : ls.length ≤ n) : (lsasB ls).length ≤ 504 * n := by
  have := lsasB_le ls h
  have : 504 * ls.length ≤ 504 * n := Nat.mul_le_mul_left _ hn
  omega
set_option maxRecDepth 100000 in
set_option maxHeartbeats 4000000 in
theorem pkLayLsas_any (sv : Value) (ls : List LsaD) (hok : Hid (∀ l ∈ ls, LsaOk l)) (hx : ls.length ≤ 20) (z : Bool) (w : World) (hn : Hid (LsasAt w sv ls)) (hz : Hid (ls.all canB = z)) :
    Calls Try.prog 79 #[sv] w fun e w' => ((z = true → ∃ q d, e = .returned (.tuple #[.slice q (be 4 ls.length ++ lsasB ls).length d, .bool true]) ∧ OwnB w w' (.slice q (be 4 ls.length ++ lsasB ls).length d) (be 4 ls.length ++ lsasB ls)) ∧ (z = false → e = .returned (.tuple #[.slice none 0 0, .bool false]))) ∧ Keeps (fun _ => False) w w' := by
  obtain ⟨i0, hi0, hz0, hz1, hz2⟩ := info_parts u8InfoAll
  obtain ⟨ms, hms, hrows, hins⟩ := hn.out
  have hml : ms.length = ls.length := by rw [← hms, List.length_map]
  obtain ⟨p, c, rfl, -, -, hb⟩ := hrows
  have hb' := Lib.hid hb; have hins' := Lib.hid hins; have hms' := Lib.hid hms
  clear hb hins hms hn
  obtain ⟨N, hN⟩ : ∃ N, N = ls.length := ⟨_, rfl⟩
  rw [← hN] at hx hml ⊢
  rw [hml] at hb' ⊢
  have hN' := Lib.hid hN; have hml' := Lib.hid hml
  clear hN hml
  go_enter Try.func79, Try.ntmps79
  go_wp2_with fail
  refine (wiLay32_nil w N (by omega) _ (Nat.le_refl _)).mono ?_
  rintro e w1 ⟨p1, c1, rfl, hO1, k1⟩
  have hO1' := Lib.hid hO1; have k1' := Lib.hid k1
  clear hO1 k1
  go_wp2_with fail
  go_loopw [4, 15] (fun bw iv wr => ∃ k : Nat, k ≤ N ∧ iv = .int .i64 k ∧ Hid (∃ q d X, bw = .slice q X.length d ∧ X = be 4 N ++ lsasB (ls.take k) ∧ OwnB w wr bw X ∧ Keeps (fun _ => False) w wr ∧ (∀ l ∈ ls.take k, canB l = true))) (fun _ iv _ => N - (intOf iv).toNat)
  case atStart => exact ⟨0, by omega, rfl, Lib.hid ⟨p1, c1, be 4 N, by rw [be_len], by simp [lsasB], hO1'.out, k1'.out, by simp⟩⟩
  case round =>
    obtain ⟨k, hk, rfl, hrow⟩ := hrel
    obtain ⟨q, d, X, rfl, hX, hO, hG, hcan⟩ := hrow.out
    have hO' := Lib.hid hO; have hG' := Lib.hid hG; have hcan' := Lib.hid hcan; have hX' := Lib.hid hX
    have hXl : X.length ≤ 4 + 504 * 20 := by
      rw [hX, List.length_append, be_len]
      have := lsasB_len0 _ hcan 20 (by rw [List.length_take]; omega)
      omega
    clear hO hG hrow hcan hX
    by_cases hlk : k < N
    · obtain ⟨g, o, rfl, hrows⟩ := hb'.out (by omega)
      obtain ⟨m, hll⟩ : ∃ m, ms[k]? = some m := ⟨_, List.getElem?_eq_getElem (by rw [hml'.out]; exact hlk)⟩
      have hmem := List.mem_of_getElem? hll
      have hin := hins'.out m hmem
      have hdl : ls[k]? = some m.d := by rw [← hms'.out, List.getElem?_map, hll]; rfl
      have hlok := hok.out m.d (List.mem_of_getElem? hdl)
      have hrow : Hid (wr.rangeAt g (o + k * 9) (lsaRow m)) := Lib.hid (hG'.out.rangeAt (hrows k m hll) id)
      have htk : ls.take (k + 1) = ls.take k ++ [m.d] := by
        have hlk2 : k < ls.length := (List.getElem?_eq_some_iff.1 hdl).1
        rw [List.take_succ_eq_append_getElem hlk2]
        rw [List.getElem?_eq_getElem hlk2] at hdl; injection hdl with hdl; rw [hdl]
      have hsn := lsasB_snoc (ls.take k) m.d
      rw [← htk] at hsn
      have hnext : Hid (be 4 N ++ lsasB (ls.take (k + 1)) = X ++ putB m.d) := Lib.hid (by rw [hsn, hX'.out, List.append_assoc])
      have htk' := Lib.hid htk
      have hzk : Hid (canB m.d = false → z = false) := Lib.hid (fun e => by
        rw [← hz.out, List.all_eq_false]
        exact ⟨m.d, List.mem_of_getElem? hdl, by rw [e]; decide⟩)
      clear hmem hrows hll hdl htk hsn
      obtain ⟨⟨age, type, lid, adv, seq, links, mask, routers, cost⟩, p5, c5, p7, c7⟩ := m
      obtain ⟨o1, o2, o3, o4, o5, o6, o7⟩ := hlok
      obtain ⟨hl1, hl2⟩ := hin
      simp only at o1 o2 o3 o4 o5 o6 o7 hl1 hl2
      have o1' := Lib.hid o1; have o2' := Lib.hid o2
      have hl1' := Lib.hid (hl1.keep hG'.out); have hl2' := Lib.hid (hl2.keep hG'.out)
      clear hl1 hl2 o1 o2
      have hrow : Hid (wr.rangeAt g (o + k * 9) [.int .i64 age, .int .i64 type, .int .u32 lid, .int .u32 adv, .int .i64 seq, .slice p5 links.length c5, .int .u32 mask, .slice p7 routers.length c7, .int .i64 cost]) := hrow
      have hBx : Hid ((wr.alloc (.cells #[.int .i64 age, .int .i64 type, .int .u32 lid, .int .u32 adv, .int .i64 seq, .slice p5 links.length c5, .int .u32 mask, .slice p7 routers.length c7, .int .i64 cost] 29)).rangeAt wr.heap.size 0 [.int .i64 age, .int .i64 type, .int .u32 lid, .int .u32 adv, .int .i64 seq, .slice p5 links.length c5, .int .u32 mask, .slice p7 routers.length c7, .int .i64 cost]) := Lib.hid (new_rangeb wr _ 29)
      have hOb := Lib.hid (hO'.out.keep ((Keeps.refl (fun _ => False) _).alloc (.cells #[.int .i64 age, .int .i64 type, .int .u32 lid, .int .u32 adv, .int .i64 seq, .slice p5 links.length c5, .int .u32 mask, .slice p7 routers.length c7, .int .i64 cost] 29)) (fun _ _ f => f))
      have hkb := Lib.hid (hG'.out.alloc (.cells #[.int .i64 age, .int .i64 type, .int .u32 lid, .int .u32 adv, .int .i64 seq, .slice p5 links.length c5, .int .u32 mask, .slice p7 routers.length c7, .int .i64 cost] 29))
      have hl1b := Lib.hid (hl1'.out.keep ((Keeps.refl (fun _ => False) _).alloc (.cells #[.int .i64 age, .int .i64 type, .int .u32 lid, .int .u32 adv, .int .i64 seq, .slice p5 links.length c5, .int .u32 mask, .slice p7 routers.length c7, .int .i64 cost] 29)))
      have hl2b := Lib.hid (hl2'.out.keep ((Keeps.refl (fun _ => False) _).alloc (.cells #[.int .i64 age, .int .i64 type, .int .u32 lid, .int .u32 adv, .int .i64 seq, .slice p5 links.length c5, .int .u32 mask, .slice p7 routers.length c7, .int .i64 cost] 29)))
      clear hO' hl1' hl2'
      obtain ⟨y, hy⟩ : ∃ y, canB ⟨age, type, lid, adv, seq, links, mask, routers, cost⟩ = y := ⟨_, rfl⟩
      rw [hy] at hzk
      have hy' := Lib.hid hy; clear hy
      go_wp2_with (first | ((with_reducible refine at_slot 18 ?_); refine wpList_load_mid rfl 29 (.tmp 17) rfl g (o + k * 9) rfl _ _ hrow.out Try.underlying29 rfl lsaInfo ?_) | ((with_reducible refine at_store 6 ?_); refine wpList_store_new rfl 29 (.tmp 6) (.tmp 18) rfl _ #[.int .i64 age, .int .i64 type, .int .u32 lid, .int .u32 adv, .int .i64 seq, .slice p5 links.length c5, .int .u32 mask, .slice p7 routers.length c7, .int .i64 cost] rfl rfl lsaInfo rfl (lsa_one _ _ _ _ _ _ _ _ _ (slice_one _ _ _) (slice_one _ _ _)) ?_) | ((with_reducible refine at_slot 20 ?_); refine wpList_load_mid rfl 29 (.tmp 6) rfl wr.heap.size 0 rfl _ _ hBx.out Try.underlying29 rfl lsaInfo ?_))
      cases y with
      | false =>
        have hz1 := Lib.hid (hzk.out rfl)
        refine (lsPut_no age type seq cost lid adv mask links routers p5 p7 c5 c7 _ hl1b o6 o7 hy').mono ?_
        rintro e w2 ⟨rfl, k2⟩
        have k2' := Lib.hid (hkb.out.trans k2); clear k2
        go_wp2_with fail
        go_ret2
        exact ⟨⟨fun e => (by rw [hz1.out] at e; cases e), fun _ => rfl⟩, k2'.out⟩
      | true =>
        have hpl := putB_le hy'.out
        refine (lsPut_yes age type seq cost lid adv mask links routers p5 p7 c5 c7 _ hl1b hl2b o1' o2' o3 o4 o5 hy').mono ?_
        rintro e w2 ⟨p2, c2, rfl, hO2, k2⟩
        obtain ⟨Y, hY⟩ : ∃ Y, putB ⟨age, type, lid, adv, seq, links, mask, routers, cost⟩ = Y := ⟨_, rfl⟩
        rw [hY] at hO2 hpl hnext
        rw [hY]
        have hsrc := Lib.hid hO2.bytes
        have hOc := Lib.hid (hOb.out.keep k2 (fun _ _ f => f))
        have hkc := Lib.hid (hkb.out.trans k2)
        have hcan2 : Hid (∀ l ∈ ls.take (k + 1), canB l = true) := Lib.hid (fun l hl => by
          rw [htk'.out] at hl
          rcases List.mem_append.1 hl with h | h
          · exact hcan'.out l h
          · simp at h; subst h; exact hy'.out)
        clear hO2 k2 hY hOb hkb hl1b hl2b hBx hrow
        go_wp2_with ((with_reducible refine at_slot 28 ?_); refine wpList_append_b rfl (.tmp 26) (.tmp 27) 71 rfl i0 Try.underlying71 hi0 hz0 hz1 hz2 w _ X rfl hOc.out _ rfl Y hsrc.out (by omega) ?_; intro q3 d3 w3 hO3 hg3; have hk3 := Lib.hid (hOc.out.keeps hkc.out hg3.out); clear hg3)
        exact ⟨⟨k + 1, by omega, by go_num, Lib.hid ⟨q3, d3, X ++ Y, by rw [List.length_append], hnext.out.symm, by have := hO3.out; exact this, hk3.out, hcan2.out⟩⟩, by simp [intOf]; omega⟩
    · obtain rfl : k = N := by omega
      have hz1 : Hid (z = true) := Lib.hid (by
        rw [← hz.out, List.all_eq_true]
        have := hcan'.out
        rw [hN'.out, List.take_length] at this
        exact this)
      have hXe : Hid (X = be 4 k ++ lsasB ls) := Lib.hid (by rw [hX'.out, hN'.out, List.take_length])
      go_wp2_with fail
      go_ret2
      exact ⟨⟨fun _ => ⟨q, d, by rw [← hXe.out]; rfl, by rw [← hXe.out]; exact hO'.out⟩, fun e => (by rw [hz1.out] at e; cases e)⟩, hG'.out⟩
end Go.Proofs.Ytdaongflpllfhaa
/- packet.tell, walked. -/
namespace Go.Proofs.Ytdaongflpllfhaa
open Go.RowKit

structure PackD.ok (p : PackD) : Prop where
  router : p.router < 4294967296
  area : p.area < 4294967296
  mask : p.mask < 4294967296
  dr : p.dr < 4294967296
  bdr : p.bdr < 4294967296
  seq : p.seq < 4294967296
  nbs : Small p.nbs
  heads : ∀ h ∈ p.heads, h.ok
  keys : ∀ k ∈ p.keys, k.ok
  lsas : ∀ l ∈ p.lsas, LsaOk l
  nl : p.nbs.length ≤ 9223372036854775807
  hl : p.heads.length ≤ 9223372036854775807
  kl : p.keys.length ≤ 9223372036854775807
  ll : p.lsas.length ≤ 9223372036854775807
theorem range_mid {w : World} {g : Nat} {cs : List Value} (h : w.rangeAt g 0 cs) (i n : Nat) {l : List Value} (e : (cs.drop i).take n = l) : w.rangeAt g i l := fun j u hu => by
  rw [← e, List.getElem?_take] at hu
  split at hu
  · rw [List.getElem?_drop] at hu
    have := h (i + j) u hu
    rwa [Nat.zero_add] at this
  · cases hu
theorem packInfo : (Try.prog.info? 77).map (·.size) = some 16 := by kernel_rfl
theorem load_heads (w : World) (b o : Nat) (v : Value) (h : w.cell? ⟨b, o, none⟩ = some v) : (loadVar 41 ⟨b, o, none⟩).run Try.prog w = .ok v w := by simp [go_sem, h]
theorem RowsAt.own_lt {α : Type} {sz : Nat} {cv : α → List Value} {w : World} {v : Value} {xs : List α} (h : RowsAt sz cv w v xs) (hcv : ∀ x, 0 < (cv x).length) (h0 : 0 < xs.length) (k : Nat) (e : v.ownBlock = some k) : k < w.heap.size := h.lt h0 hcv k e
theorem Boxed.older {B : Nat} {cs : List Value} {w0 w1 W : World} (s : Boxed B cs w1 W) (k : Keeps (fun _ => False) w0 w1) : Boxed B cs w0 W := ⟨s.r, k.trans s.k⟩
def TellPost (B : List UInt8) (z : Bool) (w : World) (e : Ending) (w' : World) : Prop :=
  ((z = true → ∃ q d, e = .returned (.tuple #[.slice q B.length d, .bool true]) ∧ OwnB w w' (.slice q B.length d) B) ∧ (z = false → e = .returned (.tuple #[.slice none 0 0, .bool false]))) ∧ Keeps (fun _ => False) w w'
set_option maxRecDepth 100000 in
set_option maxHeartbeats 4000000 in
theorem pkTell_any (p : PackD) (pn ph pk pl : Option Addr) (cn ch ck cl : Nat) (cs : List Value) (z : Bool) (B : List UInt8) (w : World)
    (hcs : Hid (cs = packCells p (.slice pn p.nbs.length cn) (.slice ph p.heads.length ch) (.slice pk p.keys.length ck) (.slice pl p.lsas.length cl)))
    (hin : Hid (PackIn w p (.slice pn p.nbs.length cn) (.slice ph p.heads.length ch) (.slice pk p.keys.length ck) (.slice pl p.lsas.length cl))) (hok : Hid p.ok) (hcan : Hid (canP p = true)) (hz : Hid (p.lsas.all canB = z)) (hB : Hid (tellP p = B)) :
    Calls Try.prog 43 #[.agg cs.toArray] w (TellPost B z w) := by
  obtain ⟨i0, hi0, hz0, hz1, hz2⟩ := info_parts u8InfoAll
  have hBx : Hid (Boxed w.heap.size cs (w.alloc (.cells cs.toArray 77)) (w.alloc (.cells cs.toArray 77))) := Lib.hid (boxed_new0 w cs _)
  have hsz : Hid (w.heap.size < (w.alloc (.cells cs.toArray 77)).heap.size) := Lib.hid (by simp)
  have hwB : Hid (Keeps (fun _ => False) w (w.alloc (.cells cs.toArray 77))) := Lib.hid ((Keeps.refl _ _).alloc _)
  obtain ⟨a1, a2, a3, a4, a5, a6⟩ := canP_parts hcan.out
  obtain ⟨b1, b2, b3, b4, b5⟩ := listsP_parts a6
  have hg1 := Lib.hid a3
  have hother := Lib.hid a2
  clear a1 a2 a3 a4 a5 a6 b2 b4
  have hq := hB.out
  unfold tellP at hq
  obtain ⟨type, router, area, auth, mask, interval, dead, priority, dr, bdr, nbs, flags, seq, heads, keys, lsas⟩ := p
  simp only at *
  have l0 := Lib.hid (show cs[0]? = some (.int .i64 type) by rw [hcs.out]; rfl)
  by_cases t1 : type = 1
  · subst t1
    rw [if_pos rfl] at hq
    have hq' := Lib.hid hq
    have hzt : Hid (z = true) := Lib.hid (by
      have h := hother.out
      unfold otherP at h
      simp at h
      rw [← hz.out]; have : lsas = [] := by simpa using h.2.2.2; 
      rw [this]; rfl)
    have hnl : nbs.length ≤ 1000 := by
      have := hg1.out rfl
      unfold greetsG at this
      simp only [Bool.and_eq_true, decide_eq_true_eq] at this; omega
    clear hq
    go_enter Try.func43, Try.ntmps43
    go_upto_region 1 with fail
    generalize w.alloc (.cells cs.toArray 77) = wB at hBx hsz hwB ⊢
    have b0 := hBx.out.cell 0 _ l0.out
    have hgr := Lib.hid (range_mid (l := [.int .u32 mask, .int .i64 interval, .int .i64 dead, .int .i64 priority, .int .u32 dr, .int .u32 bdr, .slice pn nbs.length cn]) hBx.out.r 4 7 (by rw [hcs.out]; rfl))
    go_wp2_with ((with_reducible refine at_slot 10 ?_); refine wpList_load_mid rfl 75 (.tmp 9) rfl w.heap.size 4 rfl _ _ hgr.out Try.underlying75 rfl greetInfo ?_)
    refine (pkLayGreeting_any mask dr bdr interval dead priority nbs pn cn B hok.out.mask hok.out.dr hok.out.bdr hnl (Lib.hid hok.out.nbs) _ (Lib.hid (hin.out.n.keep hwB.out)) hq').mono ?_
    rintro e w2 ⟨q, d, rfl, hO, hk⟩
    have hO' := Lib.hid hO; have hk' := Lib.hid hk
    clear hO hk
    go_wp2_with fail
    go_ret2
    exact ⟨⟨fun _ => ⟨q, d, rfl, hO'.out.older (by have := hsz.out; omega)⟩, fun e => (by rw [hzt.out] at e; cases e)⟩, hwB.out.trans hk'.out⟩
  · rw [if_neg t1] at hq
    have d1 : (type == 1) = false := by rw [beq_eq_false_iff_ne]; exact t1
    by_cases t2 : type = 2
    · subst t2
      rw [if_pos rfl] at hq
      have hq' := Lib.hid hq
      have hzt : Hid (z = true) := Lib.hid (by
        have h := hother.out
        unfold otherP at h
        simp at h
        rw [← hz.out]; have : lsas = [] := by simpa using h.2.2
        rw [this]; rfl)
      clear hq t1 d1
      obtain ⟨T, hT, lT, hTl⟩ := u8_nat flags
      go_enter Try.func43, Try.ntmps43
      go_upto_region 1 with fail
      generalize w.alloc (.cells cs.toArray 77) = wB at hBx hsz hwB ⊢
      have b0 := hBx.out.cell 0 _ l0.out
      go_upto_region 5 with fail
      clear b0
      refine wp_region_noPanic ?_
      refine wp_region_held_drew (S := (fun W => Boxed w.heap.size cs wB W)) (by kernel_rfl) (hBx.out.next ((Keeps.refl _ _).drew)) (fun hHeld => ?_)
      refine tk 1 rfl ?_
      refine tkL 2 rfl (yieldsIf_load_cell (by rfl) 3 (.tmp 15) rfl w.heap.size 11 rfl _ (fun _ s => s.cell 11 (.int .i64 flags) (by rw [hcs.out]; rfl)) (fun w s => load_int w _ _ _ s)) ?_
      refine tk 3 rfl ?_
      refine wpAnyH_slots [14, 18, 19, 4] [0, 4, 5, 6] (fun L f W =>
          (L 0 = true → L 5 = false → ∃ p c, f 14 = .slice p (be 2 1500).length c ∧ OwnB wB W (f 14) (be 2 1500)) ∧
          (L 4 = true → L 5 = false → ∃ g, f 18 = .slice (some ⟨g, 0, none⟩) 2 2 ∧ BytesAt W (f 18) [2, UInt8.ofNat T]) ∧
          (L 5 = true → ∃ p c, f 19 = .slice p ((be 2 1500).length + 2) c ∧ OwnB wB W (f 19) (be 2 1500 ++ [2, UInt8.ofNat T])) ∧
          (L 6 = true → L 5 = true ∧ f 4 = f 19)) (by kernel_rfl) (by kernel_rfl) (by kernel_rfl) (by kernel_rfl) (Nat.le_of_ble_eq_true (by kernel_rfl)) hHeld
        (fun L f h => ⟨fun e => absurd (h 0 (by decide)) (by rw [e]; decide), fun e => absurd (h 4 (by decide)) (by rw [e]; decide), fun e => absurd (h 5 (by decide)) (by rw [e]; decide), fun e => absurd (h 6 (by decide)) (by rw [e]; decide)⟩) ?_ ?_
      · refine StepsG.cons (d := 14) rfl rfl (by decide) ?_ (StepsG.cons (d := 18) rfl rfl (by decide) ?_ (StepsG.cons (d := 19) rfl rfl (by decide) ?_ (StepsG.cons (d := 4) rfl rfl (by decide) ?_ StepsG.nil)))
        · intro L f W hG hS hL hdep K hK
          simp only [actOf, List.foldl_cons, List.foldl_nil, Act.put, sA, sZ, sS] at hK ⊢
          rw [if_pos (by rfl)]
          go_simp
          refine (wiLay16_any wB _ [] 1500 (by omega) (by simp) _ (Lib.hid (OwnB.nil wB W hS.k.size))).mono ?_
          rintro e W' ⟨p, c, rfl, hO, hg⟩
          have hk := hg.nil
          rw [List.nil_append, show ([] : List UInt8).length + (be 2 1500).length = (be 2 1500).length by simp] at hO
          rw [show ([] : List UInt8).length + (be 2 1500).length = (be 2 1500).length by simp]
          go_wp2_with fail
          refine hK.out _ _ (hS.next hk) ⟨fun _ _ => ⟨p, c, rfl, hO⟩, fun e8 e9 => ?_, fun e9 => ?_, fun e10 => hG.2.2.2 e10⟩
          · obtain ⟨g, h1, h2⟩ := hG.2.1 e8 e9
            exact ⟨g, h1, h2.keep hk⟩
          · obtain ⟨p, c, h1, h2⟩ := hG.2.2.1 e9
            exact ⟨p, c, h1, h2.keep hk (fun _ _ f => f)⟩
        · intro L f W hG hS hL hdep K hK
          simp only [actOf, List.foldl_cons, List.foldl_nil, Act.put, sA, sZ, sS] at hK ⊢
          rw [if_pos (by rfl)]
          go_simp
          have hk : Keeps (fun _ => False) W (W.alloc (.cells #[.int .u8 2, .int .u8 T] 5)) := (Keeps.refl _ _).alloc _
          refine hK.out _ _ (hS.next hk) ⟨fun e3 e9 => ?_, fun _ _ => ⟨W.heap.size, rfl, ?_⟩, fun e9 => ?_, fun e10 => hG.2.2.2 e10⟩
          · obtain ⟨p, c, h1, h2⟩ := hG.1 e3 e9
            exact ⟨p, c, h1, h2.keep hk (fun _ _ f => f)⟩
          · have := (OwnB.new W W (Nat.le_refl _) [2, UInt8.ofNat T] (n := 2) rfl (by unfold maxLen; omega)).bytes
            rw [List.map_cons, List.map_cons, List.map_nil, bv_lt T lT] at this
            exact this
          · obtain ⟨p, c, h1, h2⟩ := hG.2.2.1 e9
            exact ⟨p, c, h1, h2.keep hk (fun _ _ f => f)⟩
        · intro L f W hG hS hL hdep K hK
          simp only [actOf, List.foldl_cons, List.foldl_nil, Act.put, sA, sZ, sS] at hK ⊢
          rw [if_pos (by rfl)]
          have d3 := hdep ⟨0, .data⟩ (by simp) rfl (by decide)
          have d8 := hdep ⟨4, .data⟩ (by simp) rfl (by decide)
          obtain ⟨p7, c7, h7, hO⟩ := hG.1 d3 hL
          obtain ⟨g, h12, hB12⟩ := hG.2.1 d8 hL
          refine wp_append_b (.tmp 14) (.tmp 18) 71 rfl i0 Try.underlying71 hi0 hz0 hz1 hz2 wB (f 14) (be 2 1500) rfl hO (f 18) rfl [2, UInt8.ofNat T] hB12 (by rw [be_len]; simp) ?_
          intro p c W' hO' hG'
          exact hK.out _ _ (hS.grow hsz.out hG' hO.2.1) ⟨fun _ e => absurd (show true = false from e) (by decide), fun _ e => absurd (show true = false from e) (by decide), fun _ => ⟨p, c, rfl, hO'⟩, fun e10 => absurd ((hG.2.2.2 e10).1.symm.trans hL) (by decide)⟩
        · intro L f W hG hS hL hdep K hK
          simp only [actOf, List.foldl_cons, List.foldl_nil, Act.put, sA, sZ, sS] at hK ⊢
          rw [if_pos (by rfl)]
          go_simp
          have d9 := hdep ⟨5, .data⟩ (by simp) rfl (by decide)
          exact hK.out _ _ hS ⟨fun e3 e9 => hG.1 e3 e9, fun e8 e9 => hG.2.1 e8 e9, fun e9 => hG.2.2.1 e9, fun _ => ⟨d9, rfl⟩⟩
      · intro f W hG hS
        obtain ⟨p13, c13, h13, hO13⟩ := hG.2.2.1 rfl
        have h3 := (hG.2.2.2 rfl).2
        simp only [actOf, List.foldl_cons, List.foldl_nil, Act.put, sA, sZ, sS]
        rw [h13] at hO13 h3
        rw [h3]
        have hO' := Lib.hid hO13; have hS' := Lib.hid hS
        generalize f 14 = f7
        generalize f 18 = f12
        generalize f 19 = f13
        clear hG h13 h3 hO13 hS f
        refine NoPanic.normal ?_
        obtain ⟨X1, hX1⟩ : ∃ X, X = be 2 1500 ++ [2, UInt8.ofNat T] := ⟨_, rfl⟩
        have hX1l : X1.length = 4 := by rw [hX1, List.length_append, be_len]; rfl
        rw [← hX1, show (be 2 1500).length + 2 = X1.length by rw [hX1l, be_len]] at hO'
        rw [show (be 2 1500).length + 2 = X1.length by rw [hX1l, be_len]]
        have hX1' := Lib.hid hX1; have hX1l' := Lib.hid hX1l
        clear hX1 hX1l
        go_upto_region 6 with fail
        refine wp_region_noPanic ?_
        refine wp_region_held_drew (S := (fun W => Boxed w.heap.size cs wB W)) (by kernel_rfl) (hS'.out.next ((Keeps.refl _ _).drew)) (fun hHeld => ?_)
        refine tk 0 rfl ?_
        refine tk 1 rfl ?_
        refine tkL 2 rfl (yieldsIf_load_cell (by rfl) 23 (.tmp 21) rfl w.heap.size 12 rfl _ (fun _ s => s.cell 12 (.int .u32 seq) (by rw [hcs.out]; rfl)) (fun w s => load_u32 w _ _ _ s)) ?_
        refine tk 4 rfl ?_
        refine tkL 5 rfl (yieldsIf_load_cell (by rfl) 41 (.tmp 24) rfl w.heap.size 13 rfl _ (fun _ s => s.cell 13 (.slice ph heads.length ch) (by rw [hcs.out]; rfl)) (fun w s => load_heads w _ _ _ s)) ?_
        have hO3 := Lib.hid (hO'.out.keep ((Keeps.refl (fun _ => False) _).drew) (fun _ _ f => f))
        refine stepL 3 rfl (by kernel_rfl) (fun K hK => ?_)
        go_simp
        (refine (wiLay32_any wB _ X1 seq hok.out.seq (by rw [hX1l'.out]; omega) _ hO3).mono ?_; rintro e W4 ⟨p4, d4, rfl, hO4, hg4⟩)
        go_wp2_with fail
        refine hK.out _ _ (hHeld.grow hsz.out hg4 hO3.out.2.1) (fun hHeld => ?_)
        clear hK K
        try simp only [Act.put, sA, sZ, sS]
        obtain ⟨X3, hX3⟩ : ∃ X, X = X1 ++ be 4 seq := ⟨_, rfl⟩
        have hX3l : X3.length = 8 := by rw [hX3, List.length_append, hX1l'.out, be_len]
        rw [← hX3, show X1.length + (be 4 seq).length = X3.length by rw [hX3, List.length_append]] at hO4
        rw [show X1.length + (be 4 seq).length = X3.length by rw [hX3, List.length_append]]
        have hX3' := Lib.hid hX3; have hX3l' := Lib.hid hX3l; have hO4' := Lib.hid hO4
        clear hX3 hX3l hO4 hg4 hO3
        refine stepL 6 rfl (by kernel_rfl) (fun K hK => ?_)
        go_simp
        (refine (pkLayHeads_any wB _ X3 _ heads (Lib.hid hok.out.heads) (by rw [hX3l'.out]; omega) _ hO4' (Lib.hid (RowsAt.keep hin.out.h (hwB.out.trans hHeld.k))) (Lib.hid (fun h0 j e => by have h1 := RowsAt.own_lt hin.out.h (fun x => by rw [headVals_len]; omega) h0 j e; exact ⟨fun e2 => by have := hO4'.out.2.1 j e2; have := hsz.out; omega, Nat.lt_of_lt_of_le h1 (hwB.out.trans hHeld.k).size⟩))).mono ?_; rintro e W5 ⟨p5, d5, rfl, hO5, hg5⟩)
        go_wp2_with fail
        refine hK.out _ _ (hHeld.grow hsz.out hg5 hO4'.out.2.1) (fun hHeld => ?_)
        clear hK K
        try simp only [Act.put, sA, sZ, sS]
        refine tk 7 rfl ?_
        refine tk 8 rfl ?_
        refine wpAnyH_done (by kernel_rfl) (NoPanic.normal ?_) _
        have hfin : X3 ++ headsB heads = B := by
          rw [← hq'.out, hX3'.out, hX1'.out, ← hTl.out]; rfl
        have hn : X3.length + (headsB heads).length = B.length := by rw [← hfin, List.length_append]
        rw [hfin, hn] at hO5
        rw [hn]
        have hO6 := Lib.hid hO5; have hS6 := Lib.hid hHeld
        clear hO5 hHeld hfin hn hg5
        go_wp2_with fail
        go_ret2
        exact ⟨⟨fun _ => ⟨p5, d5, rfl, hO6.out.older (by have := hsz.out; omega)⟩, fun e => (by rw [hzt.out] at e; cases e)⟩, hwB.out.trans hS6.out.k⟩
    · rw [if_neg t2] at hq
      have d2 : (type == 2) = false := by rw [beq_eq_false_iff_ne]; exact t2
      by_cases t3 : type = 3
      · subst t3
        rw [if_pos rfl] at hq
        have hq' := Lib.hid hq
        have hzt : Hid (z = true) := Lib.hid (by
          have h := hother.out
          unfold otherP at h
          simp at h
          rw [← hz.out]; have : lsas = [] := by simpa using h.2.2.2
          rw [this]; rfl)
        clear hq t1 d1 t2 d2
        go_enter Try.func43, Try.ntmps43
        go_upto_region 1 with fail
        generalize w.alloc (.cells cs.toArray 77) = wB at hBx hsz hwB ⊢
        have b0 := hBx.out.cell 0 _ l0.out
        have b14 := hBx.out.cell 14 (.slice pk keys.length ck) (by rw [hcs.out]; rfl)
        go_wp2_with fail
        refine (pkLayKeys_any _ keys (Lib.hid hok.out.keys) (by omega) _ (Lib.hid (RowsAt.keep hin.out.k hwB.out))).mono ?_
        rintro e w2 ⟨q, d, rfl, hO, hk⟩
        rw [hq'.out] at hO ⊢
        have hO' := Lib.hid hO; have hk' := Lib.hid hk
        clear hO hk
        go_wp2_with fail
        go_ret2
        exact ⟨⟨fun _ => ⟨q, d, rfl, hO'.out.older (by have := hsz.out; omega)⟩, fun e => (by rw [hzt.out] at e; cases e)⟩, hwB.out.trans hk'.out⟩
      · rw [if_neg t3] at hq
        have d3 : (type == 3) = false := by rw [beq_eq_false_iff_ne]; exact t3
        by_cases t4 : type = 4
        · subst t4
          rw [if_pos rfl] at hq
          have hq' := Lib.hid hq
          clear hq t1 d1 t2 d2 t3 d3
          go_enter Try.func43, Try.ntmps43
          go_upto_region 1 with fail
          generalize w.alloc (.cells cs.toArray 77) = wB at hBx hsz hwB ⊢
          have b0 := hBx.out.cell 0 _ l0.out
          have b15 := hBx.out.cell 15 (.slice pl lsas.length cl) (by rw [hcs.out]; rfl)
          go_wp2_with fail
          refine (pkLayLsas_any _ lsas (Lib.hid hok.out.lsas) (by omega) z _ (Lib.hid (hin.out.l.keep hwB.out)) hz).mono ?_
          rintro e w2 ⟨⟨hyes, hno⟩, hk⟩
          have hk' := Lib.hid hk
          clear hk
          cases z with
          | true =>
            obtain ⟨q, d, rfl, hO⟩ := hyes rfl
            rw [hq'.out] at hO ⊢
            have hO' := Lib.hid hO
            clear hO hyes hno
            go_wp2_with fail
            go_ret2
            exact ⟨⟨fun _ => ⟨q, d, rfl, hO'.out.older (by have := hsz.out; omega)⟩, fun e => (by cases e)⟩, hwB.out.trans hk'.out⟩
          | false =>
            obtain rfl := hno rfl
            clear hyes hno
            go_wp2_with fail
            go_ret2
            exact ⟨⟨fun e => (by cases e), fun _ => rfl⟩, hwB.out.trans hk'.out⟩
        · rw [if_neg t4] at hq
          have d4 : (type == 4) = false := by rw [beq_eq_false_iff_ne]; exact t4
          have hq' := Lib.hid hq
          have hzt : Hid (z = true) := Lib.hid (by
            have h := hother.out
            unfold otherP at h
            simp [t4] at h
            rw [← hz.out]; have : lsas = [] := by simpa using h.2.2.2.2
            rw [this]; rfl)
          clear hq t1 t2 t3 t4
          go_enter Try.func43, Try.ntmps43
          go_upto_region 1 with fail
          generalize w.alloc (.cells cs.toArray 77) = wB at hBx hsz hwB ⊢
          have b0 := hBx.out.cell 0 _ l0.out
          have b13 := hBx.out.cell 13 (.slice ph heads.length ch) (by rw [hcs.out]; rfl)
          go_wp2_with fail
          refine (pkLayHeads_any wB _ [] _ heads (Lib.hid hok.out.heads) (by simp; omega) _ (Lib.hid (OwnB.nil wB wB (Nat.le_refl _))) (Lib.hid (RowsAt.keep hin.out.h hwB.out)) (Lib.hid (fun h0 j e => by have h1 := RowsAt.own_lt hin.out.h (fun x => by rw [headVals_len]; omega) h0 j e; exact ⟨fun e2 => (by simp [Value.ownBlock] at e2), Nat.lt_of_lt_of_le h1 hwB.out.size⟩))).mono ?_
          rintro e w2 ⟨q, d, rfl, hO, hg⟩
          rw [List.nil_append, hq'.out, show ([] : List UInt8).length + B.length = B.length by simp] at hO
          rw [hq'.out, show ([] : List UInt8).length + B.length = B.length by simp]
          have hk' := Lib.hid hg.nil
          have hO' := Lib.hid hO
          clear hO hg
          go_wp2_with fail
          go_ret2
          exact ⟨⟨fun _ => ⟨q, d, rfl, hO'.out.older (by have := hsz.out; omega)⟩, fun e => (by rw [hzt.out] at e; cases e)⟩, hwB.out.trans hk'.out⟩
end Go.Proofs.Ytdaongflpllfhaa
