/- The document's disk: Write, whole; Read; Flush; Crash. -/
import Derived.Test.YtoigepaanhjnfaaR
namespace Go.Proofs.Ytoigepaanhjnfaa
open Go.RowKit
open Go.Maps

section
variable {w w1 w' : World} {D D' : Dk} {N N' rb : Nat} {sv ov : Value} {mb : Nat} {ar : Int}
theorem RAfter.from (hk : Keeps (fun k => k = rb) w w1) (h : RAfter N D rb sv ov mb w1 D' w') : RAfter N D rb sv ov mb w D' w' := by
  obtain ⟨sv', ov', mb', ar', hm, hkk, hf⟩ := h
  refine ⟨sv', ov', mb', ar', hm, (hk.mono (G := rfoot rb sv ov mb) (fun k e => .inl (.inl e))).trans hkk, fun k e => (hf k e).imp id (fun e => Nat.le_trans hk.size e)⟩
theorem MapS.mono {Dm : DataW Unit} {n : Nat} {order : List Nat} {la : Nat → List UInt8} (h : MapS w mb N Dm n order la) (hN : N ≤ N') : MapS w mb N' Dm n order la :=
  ⟨h.own.mono hN, h.isMap, h.n1, h.has, h.val⟩
theorem RefMem.mono (h : RefMem w D N rb sv ov mb ar) (hN : N ≤ N') : RefMem w D N' rb sv ov mb ar := { h with map := by obtain ⟨Dm, hm⟩ := h.map; exact ⟨Dm, hm.mono hN⟩ }
theorem RefMem.after (h : RefMem w D N rb sv ov mb ar) (hN : N ≤ N') : RAfter N' D rb sv ov mb w D w := ⟨sv, ov, mb, ar, h.mono hN, Keeps.refl _ _, fun _ e => .inl e⟩
end

theorem rwrite_any (D : Dk) (N rb : Nat) (sv ov : Value) (mb : Nat) (ar : Int) (w : World) (i : Int) (s : ByteArray) (h : RefMem w D N rb sv ov mb ar) (hN : N < 1000) (hlft : D.left ≤ 9223372036854775807) :
    Calls Try.prog 23 #[.pointer (some ⟨rb, 0, none⟩), .int .i64 i, .string s] w fun e w' => e = .returned (.int .i64 (D.write i s.data.toList).1) ∧ RAfter (N + 1) D rb sv ov mb w (D.write i s.data.toList).2 w' := by
  have hsz : s.data.toList.length = s.size := Array.length_toList ..
  by_cases hon : D.on = false
  · have e1 : D.write i s.data.toList = (2, D) := by simp [Dk.write, hon]
    rw [e1]
    refine (rwrite_off rb i s w (by rw [h.c3, hon]; rfl)).mono ?_
    rintro e w' ⟨rfl, rfl⟩
    exact ⟨rfl, h.after (by omega)⟩
  have hon : D.on = true := by simpa using hon
  have h3 : w.cell? ⟨rb, 3, none⟩ = some (.bool false) := by rw [h.c3, hon]; rfl
  obtain ⟨sg, cap, rfl⟩ := h.sslice
  by_cases hi : ¬ (0 ≤ i ∧ i < D.n)
  · have e1 : D.write i s.data.toList = (1, D) := by unfold Dk.write; rw [if_neg (by simp [hon]), if_pos (.inl hi)]
    rw [e1]
    by_cases h0 : i < 0
    · refine (rwrite_low rb i s w h3 h0).mono ?_
      rintro e w' ⟨rfl, rfl⟩
      exact ⟨rfl, h.after (by omega)⟩
    · refine (rwrite_high rb D.n cap _ i s w h.c0 h3 (by omega) (by omega)).mono ?_
      rintro e w' ⟨rfl, rfl⟩
      exact ⟨rfl, h.after (by omega)⟩
  have hi : 0 ≤ i ∧ i < D.n := by simpa using hi
  by_cases h64 : s.data.toList.length ≠ 64
  · have e1 : D.write i s.data.toList = (1, D) := by unfold Dk.write; rw [if_neg (by simp [hon]), if_pos (.inr h64)]
    rw [e1]
    refine (rwrite_odd rb D.n cap _ i s w h.c0 h3 hi.1 hi.2 (by rw [bne_iff_ne]; omega)).mono ?_
    rintro e w' ⟨rfl, rfl⟩
    exact ⟨rfl, h.after (by omega)⟩
  have h64 : s.data.toList.length = 64 := by simpa using h64
  have hs : ((s.size : Int) != 64) = false := by rw [← hsz, h64]; rfl
  have hw : D.write i s.data.toList = if D.fail.1 then (2, D.fail.2) else (0, D.fail.2.put i.toNat s.data.toList) := by
    unfold Dk.write
    rw [if_neg (by simp [hon]), if_neg (by intro e; rcases e with e | e; exact e hi; exact e h64)]
  obtain ⟨k, rfl⟩ := Int.eq_ofNat_of_zero_le hi.1
  have hk : k < D.n := by omega
  obtain ⟨w1, ar1, hf, hm1, hk1⟩ := rgoes_mem h hon hlft
  have hn1 : D.fail.2.n = D.n := by unfold Dk.fail; split; rfl; split <;> rfl
  rw [hw]
  cases hfl : D.fail.1
  · rw [hfl] at hf
    obtain ⟨Dm, hmap⟩ := hm1.map
    have key : Calls Try.prog 23 #[.pointer (some ⟨rb, 0, none⟩), .int .i64 k, .string s] w (RPut N D.fail.2 rb (.slice (some ⟨sg, 0, none⟩) D.n cap) ov mb k s.data.toList w1) := by
      by_cases hmem : k ∈ D.fail.2.order
      · exact rput_old w w1 D.fail.2 N rb _ ov mb ar1 k s _ D.n cap (Lib.hid hm1) hN h.c0 h3 hk (Lib.hid (by rw [hn1]; exact hk)) (Lib.hid hmem) hs (Lib.hid hf) hm1.c2 Dm (Lib.hid hmap) (Lib.hid h64)
      · exact rput_new w w1 D.fail.2 N rb _ ov mb ar1 k s _ D.n cap (Lib.hid hm1) hN h.c0 h3 hk (Lib.hid (by rw [hn1]; exact hk)) (Lib.hid hmem) hs (Lib.hid hf) hm1.c1 hm1.c2 Dm (Lib.hid hmap) (Lib.hid h64)
    refine key.mono ?_
    rintro e w' ⟨rfl, ha⟩
    exact ⟨rfl, RAfter.from hk1 ha⟩
  · rw [hfl] at hf
    refine (rwrite_fails rb D.n cap _ k s w w1 h.c0 h3 hi.1 hi.2 hs (Lib.hid hf)).mono ?_
    rintro e w' ⟨rfl, rfl⟩
    exact ⟨rfl, RAfter.from hk1 (hm1.after (by omega))⟩

/-! Read -/
theorem rread_off (b : Nat) (i : Int) (w : World) (h2 : w.cell? ⟨b, 3, none⟩ = some (.bool true)) :
    Calls Try.prog 21 #[.pointer (some ⟨b, 0, none⟩), .int .i64 i] w fun e w' => e = .returned (.tuple #[strv [], .int .i64 2]) ∧ w = w' := by
  go_enter Try.func21, Try.ntmps21
  go_wp2
  go_ret2
  exact ⟨rfl, rfl⟩
theorem rread_low (b : Nat) (i : Int) (w : World) (h2 : w.cell? ⟨b, 3, none⟩ = some (.bool false)) (hi : i < 0) :
    Calls Try.prog 21 #[.pointer (some ⟨b, 0, none⟩), .int .i64 i] w fun e w' => e = .returned (.tuple #[strv [], .int .i64 1]) ∧ w = w' := by
  go_enter Try.func21, Try.ntmps21
  go_wp2
  go_ret2
  exact ⟨rfl, rfl⟩
theorem rread_high (b n c : Nat) (q : Option Addr) (i : Int) (w : World) (h0 : w.cell? ⟨b, 0, none⟩ = some (.slice q n c)) (h2 : w.cell? ⟨b, 3, none⟩ = some (.bool false)) (hi0 : 0 ≤ i) (hi : n ≤ i) :
    Calls Try.prog 21 #[.pointer (some ⟨b, 0, none⟩), .int .i64 i] w fun e w' => e = .returned (.tuple #[strv [], .int .i64 1]) ∧ w = w' := by
  go_enter Try.func21, Try.ntmps21
  go_wp2
  go_ret2
  exact ⟨rfl, rfl⟩
set_option maxRecDepth 100000 in
theorem rread_wait (b n c mb i : Nat) (q : Option Addr) (s : ByteArray) (w : World) (h0 : w.cell? ⟨b, 0, none⟩ = some (.slice q n c)) (h2 : w.cell? ⟨b, 3, none⟩ = some (.bool false)) (hc2 : w.cell? ⟨b, 2, none⟩ = some (.map (some mb))) (hi : i < n)
    (hl : (Instr.lookup 49 (.map (some mb)) (.int .i64 i) true).run Try.prog w = .ok (.tuple #[.string s, .bool true]) w) :
    Calls Try.prog 21 #[.pointer (some ⟨b, 0, none⟩), .int .i64 i] w fun e w' => e = .returned (.tuple #[.string s, .int .i64 0]) ∧ w = w' := by
  go_enter Try.func21, Try.ntmps21
  go_wp2
  go_ret2
  exact ⟨rfl, rfl⟩
set_option maxRecDepth 100000 in
theorem rread_stay (b n c mb i sg : Nat) (s z : ByteArray) (w : World) (h0 : w.cell? ⟨b, 0, none⟩ = some (.slice (some ⟨sg, 0, none⟩) n c)) (h2 : w.cell? ⟨b, 3, none⟩ = some (.bool false)) (hc2 : w.cell? ⟨b, 2, none⟩ = some (.map (some mb))) (hi : i < n)
    (hs : w.cell? ⟨sg, i, none⟩ = some (.string s)) (hl : (Instr.lookup 49 (.map (some mb)) (.int .i64 i) true).run Try.prog w = .ok (.tuple #[.string z, .bool false]) w) :
    Calls Try.prog 21 #[.pointer (some ⟨b, 0, none⟩), .int .i64 i] w fun e w' => e = .returned (.tuple #[.string s, .int .i64 0]) ∧ w = w' := by
  go_enter Try.func21, Try.ntmps21
  go_wp2
  go_ret2
  exact ⟨rfl, rfl⟩

def Dk.readv (D : Dk) (i : Int) : List UInt8 := if D.read i = 0 then D.la i.toNat else []
theorem rread_any (D : Dk) (N rb : Nat) (sv ov : Value) (mb : Nat) (ar : Int) (w : World) (i : Int) (h : RefMem w D N rb sv ov mb ar) :
    Calls Try.prog 21 #[.pointer (some ⟨rb, 0, none⟩), .int .i64 i] w fun e w' => e = .returned (.tuple #[strv (D.readv i), .int .i64 (D.read i)]) ∧ w = w' := by
  unfold Dk.readv
  by_cases hon : D.on = false
  · have e1 : D.read i = 2 := by simp [Dk.read, hon]
    rw [e1, if_neg (by omega)]; exact rread_off rb i w (by rw [h.c3, hon]; rfl)
  have hon : D.on = true := by simpa using hon
  have h3 : w.cell? ⟨rb, 3, none⟩ = some (.bool false) := by rw [h.c3, hon]; rfl
  obtain ⟨sg, cap, rfl⟩ := h.sslice
  by_cases hi : ¬ (0 ≤ i ∧ i < D.n)
  · have e1 : D.read i = 1 := by unfold Dk.read; rw [if_neg (by simp [hon]), if_pos hi]
    rw [e1, if_neg (by omega)]
    by_cases h0 : i < 0
    · exact rread_low rb i w h3 h0
    · exact rread_high rb D.n cap _ i w h.c0 h3 (by omega) (by omega)
  have hi : 0 ≤ i ∧ i < D.n := by simpa using hi
  have e1 : D.read i = 0 := by unfold Dk.read; rw [if_neg (by simp [hon]), if_neg (by simpa using hi)]
  rw [e1, if_pos rfl]
  obtain ⟨k, rfl⟩ := Int.eq_ofNat_of_zero_le hi.1
  have hk : k < D.n := by omega
  obtain ⟨Dm, hmap⟩ := h.map
  have hl := hmap.look_ok k hk
  by_cases hm : k ∈ D.order
  · rw [if_pos hm, decide_eq_true hm] at hl
    exact rread_wait rb D.n cap mb k _ _ w h.c0 h3 h.c2 hk hl
  · rw [if_neg hm, decide_eq_false hm] at hl
    have := rread_stay rb D.n cap mb k sg _ _ w h.c0 h3 h.c2 hk (h.scell rfl k hk) hl
    rw [← h.sync k hk hm] at this
    exact this

/-! the loop of Flush and of Crash -/
structure RF (D : Dk) (f : Nat → Bool) (N rb : Nat) (sv ov : Value) (mb : Nat) (ar : Int) (w : World) (k : Nat) (wr : World) : Prop where
  mem : RefMem wr { D with st := stP D.st D.la D.order f k } N rb sv ov mb ar
  keeps : Keeps (fun j => sv.ownBlock = some j) w wr

section
variable {w wr w' : World} {D : Dk} {f : Nat → Bool} {N rb k i sg cap ocap : Nat} {q : Option Addr} {ov : Value} {mb : Nat} {ar : Int}
theorem RF.start {sv : Value} (h : RefMem w D N rb sv ov mb ar) : RF D f N rb sv ov mb ar w 0 w := by
  refine ⟨?_, Keeps.refl _ _⟩
  have e1 : stP D.st D.la D.order f 0 = D.st := by funext i; simp [stP]
  rw [e1]; exact h
theorem RF.next_skip {sv : Value} (h : RF D f N rb sv ov mb ar w k wr) (hk : k < D.order.length) (hf : f k = false) : RF D f N rb sv ov mb ar w (k + 1) wr := by
  obtain ⟨h1, h2, h3, h4, h5⟩ := idx_k (i := D.order.getD k 0) h.mem.nodup hk rfl
  have e1 : stP D.st D.la D.order f (k + 1) = stP D.st D.la D.order f k := by
    have h1' : D.order.idxOf (D.order.getD k 0) = k := h1
    have h4' : D.order.take (k + 1) = D.order.take k ++ [D.order.getD k 0] := h4
    funext j; by_cases e : j = D.order.getD k 0
    · subst e; unfold stP; rw [h1', hf]; simp
    · unfold stP; rw [h4']; simp only [List.mem_append, List.mem_singleton, e, or_false]
  exact ⟨by rw [e1]; exact h.mem, h.keeps⟩
theorem RF.next (h : RF D f N rb (.slice (some ⟨sg, 0, none⟩) D.n cap) ov mb ar w k wr) (hk : k < D.order.length) (hi : i = D.order.getD k 0) (hf : f k = true) :
    RF D f N rb (.slice (some ⟨sg, 0, none⟩) D.n cap) ov mb ar w (k + 1) (wr.drew.setCell ⟨sg, i, none⟩ (strv (D.la i))) := by
  have hnd : D.order.Nodup := h.mem.nodup
  obtain ⟨h1, h2, h3, h4, h5⟩ := idx_k hnd hk hi
  have hin : i < D.n := by
    have := h.mem.olt i (List.mem_of_mem_drop h3); exact this
  have kd : Keeps (fun j => (Value.slice (some ⟨sg, 0, none⟩) D.n cap).ownBlock = some j) wr (wr.drew.setCell ⟨sg, i, none⟩ (strv (D.la i))) := ((Keeps.refl (fun j => (Value.slice (some ⟨sg, 0, none⟩) D.n cap).ownBlock = some j) _).drew).setCell (p := ⟨sg, i, none⟩) (.inl rfl) _
  have e1 : stP D.st D.la D.order f (k + 1) = upd (stP D.st D.la D.order f k) i (D.la i) := by
    funext j; by_cases e : j = i
    · subst e; rw [upd_same]; unfold stP; rw [if_pos ⟨by rw [h4]; simp, by rw [h1]; exact hf⟩]
    · rw [upd_other _ _ _ _ e]; unfold stP; rw [h4]; simp only [List.mem_append, List.mem_singleton, e, or_false]
  have hm := h.mem
  refine ⟨?_, h.keeps.trans kd⟩
  rw [e1]
  have hst := (World.ownsRow.stored (w := wr.drew) (show wr.drew.ownsRow 0 9 1 _ _ _ from hm.st) i (strv (D.la i))).1
  exact { hm with
    hd := by rw [kd.block rb (lt_of_block hm.hd) (fun e => hm.svr (by rw [e]))]; exact hm.hd
    st := by
      refine cast (congrArg _ ?_) hst
      apply List.ext_getElem?
      intro j
      simp only [List.getElem?_set, List.getElem?_map]
      by_cases e : i = j
      · subst e; rw [if_pos rfl]; simp [hin, upd_same]
      · rw [if_neg e]
        by_cases hj : j < D.n
        · simp [hj, upd_other _ _ _ _ (fun h => e h.symm)]
        · simp [hj]
    ord := kd.ownsRow hm.ord (fun j e1 e2 => hm.sov j e2 e1)
    map := by obtain ⟨Dm, hmap⟩ := hm.map; exact ⟨Dm, hmap.keep kd (fun e => hm.smb e)⟩
    sync := fun j hj hn => by
      show D.la j = upd (stP D.st D.la D.order f k) i (D.la i) j
      by_cases e : j = i
      · subst e; rw [upd_same]
      · rw [upd_other _ _ _ _ e]; exact hm.sync j hj hn
    slen := fun j hj => by
      show (upd (stP D.st D.la D.order f k) i (D.la i) j).length = 64
      by_cases e : j = i
      · subst e; rw [upd_same]; exact hm.llen j hj
      · rw [upd_other _ _ _ _ e]; exact hm.slen j hj }
theorem RF.facts (h : RF D f N rb (.slice (some ⟨sg, 0, none⟩) D.n cap) (.slice q D.order.length ocap) mb ar w k wr) :
    wr.cell? ⟨rb, 0, none⟩ = some (.slice (some ⟨sg, 0, none⟩) D.n cap) ∧ wr.cell? ⟨rb, 1, none⟩ = some (.slice q D.order.length ocap) ∧ wr.cell? ⟨rb, 2, none⟩ = some (.map (some mb)) :=
  ⟨h.mem.c0, h.mem.c1, h.mem.c2⟩
theorem stP_done' (hf : ∀ j, k ≤ j → f j = false) : stP D.st D.la D.order f k = D.settled f := by
  funext i; unfold stP Dk.settled
  by_cases hm : i ∈ D.order
  · have hlt := List.idxOf_lt_length_iff.2 hm
    by_cases hk : D.order.idxOf i < k
    · have : i ∈ D.order.take k := by
        rw [List.mem_take_iff_getElem]
        exact ⟨D.order.idxOf i, by omega, List.getElem_idxOf hlt⟩
      simp [hm, this]
    · simp [hf _ (Nat.not_lt.1 hk)]
  · have : i ∉ D.order.take k := fun h => hm (List.mem_of_mem_take h)
    simp [hm, this]
theorem RF.facts2 {sv : Value} (h : RF D f N rb sv ov mb ar w k wr) :
    rb < wr.heap.size ∧ wr.frozen? ⟨rb, 1, none⟩ = false ∧ wr.frozen? ⟨rb, 2, none⟩ = false ∧ wr.frozen? ⟨rb, 3, none⟩ = false ∧ wr.frozen? ⟨rb, 4, none⟩ = false ∧ wr.cell? ⟨rb, 3, none⟩ = some (.bool (!D.on)) ∧ wr.cell? ⟨rb, 4, none⟩ = some (.int .i64 ar) :=
  ⟨h.mem.lt rb (.inl rfl), h.mem.fr 1, h.mem.fr 2, h.mem.fr 3, h.mem.fr 4, h.mem.c3, h.mem.c4⟩
theorem RF.round (h : RF D f N rb (.slice (some ⟨sg, 0, none⟩) D.n cap) (.slice q D.order.length ocap) mb ar w k wr) (hk : k < D.order.length) (hi : i = D.order.getD k 0) :
    i < D.n ∧ (∃ og, q = some ⟨og, 0, none⟩ ∧ wr.cell? ⟨og, k, none⟩ = some (.int .i64 i)) ∧ (∃ o, wr.cell? ⟨sg, i, none⟩ = some o) ∧ wr.frozen? ⟨sg, i, none⟩ = false ∧
    (Instr.lookup 49 (.map (some mb)) (.int .i64 i) false).run Try.prog wr.drew = .ok (strv (D.la i)) wr.drew := by
  have hm := h.mem
  have hnd : D.order.Nodup := hm.nodup
  obtain ⟨h1, h2, h3, h4, h5⟩ := idx_k hnd hk hi
  have him : i ∈ D.order := List.mem_of_mem_drop h3
  have hin : i < D.n := hm.olt i him
  obtain ⟨Dm, hmap⟩ := hm.map
  refine ⟨hin, ?_, ⟨_, hm.scell rfl i hin⟩, World.ownsRow.frozenAt hm.st i, (hmap.keep ((Keeps.refl (fun _ => False) wr).drew) id).look i hin him⟩
  have ho : wr.ownsRow 0 3 1 (.slice q D.order.length ocap) D.order.length (D.order.map iv) := hm.ord
  rcases ho.2 with ⟨hv, h0⟩ | ⟨og, cap', cur, hv, _⟩
  · omega
  · injection hv with e1 e2 e3
    subst e1
    refine ⟨og, rfl, ?_⟩
    rw [World.ownsRow.cellAt ho k (by omega), hi]
    simp [hk, iv]
end

section
variable {w wr w' : World} {D : Dk} {f : Nat → Bool} {N rb k i sg cap ocap : Nat} {q : Option Addr} {ov : Value} {mb : Nat} {ar : Int}
theorem stP_done (hk : D.order.length ≤ k) : stP D.st D.la D.order f k = D.settled f := by
  funext i; unfold stP Dk.settled; rw [List.take_of_length_le hk]
theorem owns_new {w2 : World} {b : Nat} (hb : w2.heap[b]? = some (.map #[] 0)) : w2.ownsMap Try.prog 3 (plainElem (H := Unit) Try.prog 9) b 0 (.map []) := by
  obtain ⟨es, cl, h, r⟩ := World.ownsMap_made w2 Try.prog 3 (plainElem (H := Unit) Try.prog 9)
  rw [heap_alloc_last] at h
  injection h with h; injection h with e1 e2
  subst e1; subst e2
  exact ⟨_, _, hb, r⟩
/-- behind the last round: a new map, no order -/
theorem settle_hd (h : RF D f N rb (.slice (some ⟨sg, 0, none⟩) D.n cap) ov mb ar w k wr) (hst : stP D.st D.la D.order f k = D.settled f) {w2 : World} (hk2 : Keeps (fun j => j = rb) wr w2) (hmk : w2.heap[wr.heap.size]? = some (.map #[] 0)) (on : Bool) (l ar' : Int)
    (hw : w2.heap[rb]? = some (.cells #[.slice (some ⟨sg, 0, none⟩) D.n cap, .slice none 0 0, .map (some wr.heap.size), .bool (!on), .int .i64 ar'] 51 (0, 0)))
    (h1 : on = true → (ar' = l ∧ 0 ≤ l ∨ ar' = -1 ∧ l < 0)) (h2 : on = false → ar' = -1) (h3 : -1 ≤ ar') (h4 : ar' ≤ 9223372036854775807) :
    RAfter N D rb (.slice (some ⟨sg, 0, none⟩) D.n cap) ov mb w { D.settle f with on := on, left := l } w2 := by
  have hm := h.mem
  have lrb := hm.lt rb (.inl rfl)
  have lsg := hm.lt sg (.inr (.inl rfl))
  have hso : ∀ j, (Value.slice (some ⟨sg, 0, none⟩) D.n cap).ownBlock = some j → j < wr.heap.size := fun j e => hm.lt j (.inr (.inl e))
  have hk0 := h.keeps.size
  refine ⟨.slice (some ⟨sg, 0, none⟩) D.n cap, .slice none 0 0, wr.heap.size, ar', ?_, ?_, ?_⟩
  · refine ⟨hm.n1, hm.n2, hw, ?_, World.ownsRow_nil _ _ _ _, ?_, hm.svr, by simp [Value.ownBlock], by omega, fun _ _ => by simp [Value.ownBlock], fun e => by have := hso _ e; omega, by simp [Value.ownBlock], by simp [Dk.settle], by simp [Dk.settle], fun _ _ _ => rfl, ?_, ?_, h1, h2, h3, h4⟩
    · have := hk2.ownsRow hm.st (fun j e1 e2 => hm.svr (by rw [e1, e2]))
      rw [hst] at this; exact this
    · exact ⟨.map [], ⟨(owns_new hmk).mono (Nat.zero_le N), isMap_empty, hm.n2, fun i _ => by simp [Dk.settle]; rfl, fun i _ hi => by simp [Dk.settle] at hi⟩⟩
    · intro i hi
      have := hm.slen i hi
      change (stP D.st D.la D.order f k i).length = 64 at this
      rw [hst] at this; exact this
    · intro i hi
      have := hm.slen i hi
      change (stP D.st D.la D.order f k i).length = 64 at this
      rw [hst] at this; exact this
  · exact (((h.keeps.mono (G := rfoot rb (.slice (some ⟨sg, 0, none⟩) D.n cap) ov mb) (fun j e => .inl (.inr (.inl e))))).trans' hk2 (fun j e => .inl (.inl e)))
  · rintro j (e | e | e | e)
    · exact .inl (.inl e)
    · exact .inl (.inr (.inl e))
    · simp [Value.ownBlock] at e
    · exact .inr (by omega)
theorem RF.settled (h : RF D f N rb (.slice (some ⟨sg, 0, none⟩) D.n cap) ov mb ar w k wr) (hst : stP D.st D.la D.order f k = D.settled f) :
    RAfter N D rb (.slice (some ⟨sg, 0, none⟩) D.n cap) ov mb w (D.settle f) (((wr.setCell ⟨rb, 1, none⟩ (.slice none 0 0)).setCell ⟨rb, 2, none⟩ (.map (some wr.heap.size))).alloc (.map #[] 0)) := by
  have hm := h.mem
  have hk2 : Keeps (fun j => j = rb) wr ((wr.setCell ⟨rb, 1, none⟩ (.slice none 0 0)).setCell ⟨rb, 2, none⟩ (.map (some wr.heap.size))) :=
    ((Keeps.refl (fun j => j = rb) _).setCell (p := ⟨rb, 1, none⟩) (.inl rfl) _).setCell (p := ⟨rb, 2, none⟩) (.inl rfl) _
  have lrb := lt_of_block hm.hd
  refine settle_hd h hst (hk2.alloc _) (by have := heap_alloc_last ((wr.setCell ⟨rb, 1, none⟩ (.slice none 0 0)).setCell ⟨rb, 2, none⟩ (.map (some wr.heap.size))) (.map #[] 0); simpa using this) D.on D.left ar ?_ hm.aon hm.aoff hm.a1 hm.a2
  rw [Below.heap_alloc _ _ _ (by simpa using lrb)]
  simpa using heap_put (heap_put hm.hd 1 (.slice none 0 0)) 2 (.map (some wr.heap.size))
end
set_option maxRecDepth 100000 in
set_option maxHeartbeats 1000000 in
theorem rflush_loop (w w1 : World) (D : Dk) (N rb sg cap ocap mb : Nat) (q : Option Addr) (ar : Int) (h : Hid (RefMem w1 D N rb (.slice (some ⟨sg, 0, none⟩) D.n cap) (.slice q D.order.length ocap) mb ar)) (h03 : w.cell? ⟨rb, 3, none⟩ = some (.bool false))
    (hf : Hid (Calls Try.prog 49 #[.pointer (some ⟨rb, 0, none⟩)] w fun e w' => e = .returned (.bool false) ∧ w1 = w')) (hn : D.n ≤ 1024) (hol : D.order.length ≤ 1024) :
    Calls Try.prog 24 #[.pointer (some ⟨rb, 0, none⟩)] w fun e w' => e = .returned (.int .i64 0) ∧ RAfter N D rb (.slice (some ⟨sg, 0, none⟩) D.n cap) (.slice q D.order.length ocap) mb w1 (D.settle fun _ => true) w' := by
  have hmm := @run_makeMap Try.prog
  go_enter Try.func24, Try.ntmps24
  go_wp2_with (go_at_call 49; refine hf.out.mono ?_; rintro e w' ⟨rfl, rfl⟩)
  go_loopw [3] (fun iv wr => ∃ k : Nat, k ≤ D.order.length ∧ iv = .int .i64 k ∧ Hid (RF D (fun _ => true) N rb (.slice (some ⟨sg, 0, none⟩) D.n cap) (.slice q D.order.length ocap) mb ar w1 k wr)) (fun iv _ => D.order.length - (intOf iv).toNat)
  case atStart => exact ⟨0, by omega, rfl, RF.start h.out⟩
  case round =>
    obtain ⟨k, hk, rfl, hP⟩ := hrel
    obtain ⟨h0, h1, h2⟩ := hP.out.facts
    by_cases hlk : k < D.order.length
    · obtain ⟨i, hi⟩ : ∃ i : Nat, i = D.order.getD k 0 := ⟨_, rfl⟩
      obtain ⟨hin, ⟨og, rfl, hoc⟩, ⟨o, hsc⟩, hsf, hl⟩ := hP.out.round hlk hi
      have hi' := Lib.hid hi; clear hi
      obtain ⟨sx, hsx⟩ : ∃ sx : ByteArray, sx = ⟨(D.la i).toArray⟩ := ⟨_, rfl⟩
      rw [show strv (D.la i) = .string sx by rw [hsx]; rfl] at hl
      have hsx' := Lib.hid hsx; clear hsx
      go_wp2_with fail
      go_still_tail 24, (by kernel_rfl)
      change wpList _ _ _ _ _ wr.drew
      go_wp2_with fail
      exact ⟨⟨k + 1, by omega, by go_num, by rw [hsx'.out]; exact hP.out.next hlk hi'.out rfl⟩, by simp [intOf]; omega⟩
    · obtain ⟨f0, f1, f2, f3, f4, f5, f6⟩ := hP.out.facts2
      go_wp2_with fail
      go_ret
      exact ⟨rfl, hP.out.settled (stP_done (by omega))⟩
end Go.Proofs.Ytoigepaanhjnfaa
