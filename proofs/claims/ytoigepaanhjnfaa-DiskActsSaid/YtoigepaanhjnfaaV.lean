/- The document's disk: New. -/
import Derived.Test.YtoigepaanhjnfaaU
namespace Go.Proofs.Ytoigepaanhjnfaa
open Go.RowKit
open Go.Maps

/-- while it is made -/
structure RN (w : World) (rb mb i : Nat) (sv : Value) (wr : World) : Prop where
  hd : wr.heap[rb]? = some (.cells #[sv, .slice none 0 0, .map (some mb), .bool false, .int .i64 (-1)] 51 (0, 0))
  st : wr.ownsRow 0 9 1 sv i (List.replicate i (strv (rep64 0)))
  mp : wr.heap[mb]? = some (.map #[] 0)
  svr : sv.ownBlock ≠ some rb
  svm : sv.ownBlock ≠ some mb
  sv1 : ∀ k, sv.ownBlock = some k → w.heap.size ≤ k
  rb1 : w.heap.size ≤ rb
  mb1 : w.heap.size ≤ mb
  keeps : Keeps (fun _ => False) w wr

theorem wp_append_sep {P : Program} {w : World} {o : Oper} {a : Act} {K : Act → World → Prop} {Q : Exit → Act → World → Prop} (s x : Operand) (t : TypeId)
    (ho : o.op = .call { callee := .builtin .append, args := #[s, x], argTypes := #[t, t] })
    (e : TypeId) (i : TypeInfo) (z : Value) (size bytes : Nat) (ht : P.underlying t = some (.slice e)) (hi : P.info? e = some i) (hz : i.zero = some z)
    (hsize : i.size = size) (hby : i.bytes = bytes) (hzs : z.cells.size = size) (hsz : 0 < size)
    (v : Value) (n : Nat) (xs : List Value) (hs : a.eval s = v) (hown : w.ownsRow 0 e size v n xs)
    (ad : Addr) (m c : Nat) (news : List Value) (hx : a.eval x = .slice (some ad) m c) (hl : news.length = m * size) (hnews : ∀ j u, news[j]? = some u → w.cell? (ad.add j) = some u) (h1 : ∀ u ∈ news, u.oneCell' = true)
    (h63 : n + m ≤ maxLen) (hbytes : (n + m) * bytes ≤ 140737488355328)
    (h : ∀ p c w', w'.ownsRow 0 e size (.slice p (n + m) c) (n + m) (xs ++ news) → w.grownBy w' v.ownBlock → Hid (∀ k, (Value.slice p (n + m) c).ownBlock = some k → v.ownBlock = some k ∨ w.heap.size ≤ k) → K (a.put o.dst (.slice p (n + m) c)) w') : o.wp P a w K Q := by
  obtain ⟨v', w', hr, h2, h3, h4⟩ := run_append_sep (P := P) w t o.type e i z size bytes ht hi hz hsize hby hzs hsz v n xs hown ad m c news hl hnews h1 h63 hbytes
  unfold Oper.wp execOp
  simp only [ho, resolve, invoke, builtin, Sem.run_bind, Sem.run_pure, Result.andThen_ok, List.map_toArray, List.map_cons, List.map_nil, hs, hx, hr]
  obtain ⟨p, c, rfl⟩ := ownsRow_slice h2
  exact h p c w' h2 h3 h4

theorem strInfo : (Try.prog.info? 9).map (fun i => (i.zero, i.size, i.bytes)) = some (some (strv []), 1, 16) := by kernel_rfl
/-- 64 noughts as cells -/
def Z64 : Array Value := madeCells (Value.cells (.int .u8 0)) 64
def z64 : ByteArray := ⟨(rep64 0).toArray⟩
theorem made64 (w : World) : ∃ X : Array Value, (Instr.makeSlice 27 (.int .i64 64) (.int .i64 64)).run Try.prog w.drew = .ok (.slice (some ⟨w.heap.size, 0, none⟩) 64 64) ((w.alloc (.cells X 5)).drew) ∧
    (convert 27 9 (.slice (some ⟨w.heap.size, 0, none⟩) 64 64)).run Try.prog (w.alloc (.cells X 5)).drew = .ok (.string z64) (w.alloc (.cells X 5)).drew := by
  obtain ⟨i0, hi0, hz0, hz1, hz2⟩ := info_parts u8InfoAll
  have hr := run_make (P := Try.prog) w.drew 27 5 i0 (.int .u8 0) Try.underlying27 hi0 hz0 .i64 .i64 64 64 (by omega) (by omega) (by rw [hz2]; decide) (by omega)
  rw [hz1] at hr
  refine ⟨madeCells (Value.cells (.int .u8 0)) 64, hr, ?_⟩
  have hlen : (rep64 0).length = 64 := rep64_len 0
  have := run_convert_bytes_back (P := Try.prog) (w.alloc (.cells (madeCells (Value.cells (.int .u8 0)) 64) 5)).drew 27 9 5 ⟨w.heap.size, 0, none⟩ 64 (rep64 0) Try.underlying27 Try.underlying5 Try.underlying9 (fun j hj => by
    have h64 : j < 64 := by have h := hj; rw [hlen] at h; exact h
    have e3 : some (Value.int .u8 ((rep64 0)[j].toNat : Int)) = ((rep64 0).map bv)[j]? := by rw [List.getElem?_map, List.getElem?_eq_getElem hj]; rfl
    have e4 := e3.trans (rep64_at j 0 h64)
    refine Eq.trans ?_ e4.symm
    rw [Addr.add_mid]
    show (w.alloc _).cell? _ = _
    rw [cell_of_row _ _ _ _ _ _ (heap_alloc_last w _), Nat.zero_add]
    unfold madeCells
    rw [Array.getElem?_map, Array.getElem?_range, if_pos h64]
    simp [Value.cells, Nat.mod_one])
  rw [hlen] at this
  exact this

def RNew (n : Nat) (w : World) (e : Ending) (w' : World) : Prop :=
  ∃ rb sv ov mb, e = .returned (.pointer (some ⟨rb, 0, none⟩)) ∧ (∀ b bs, RefMem w' (fresh b bs n) 0 rb sv ov mb (-1)) ∧ (∀ k, rfoot rb sv ov mb k → w.heap.size ≤ k) ∧ Keeps (fun _ => False) w w'

theorem RN.start (w : World) : Hid (RN w (w.heap.size + 1) w.heap.size 0 (.slice none 0 0) ((w.alloc (.map #[] 0)).alloc (.cells #[.slice none 0 0, .slice none 0 0, .map (some w.heap.size), .bool false, .int .i64 (-1)] 51))) := by
  refine ⟨?_, World.ownsRow_nil _ _ _ _, ?_, by simp [Value.ownBlock], by simp [Value.ownBlock], by simp [Value.ownBlock], by omega, Nat.le_refl _, ((Keeps.refl _ _).alloc _).alloc _⟩
  · have := heap_alloc_last (w.alloc (.map #[] 0)) (.cells #[.slice none 0 0, .slice none 0 0, .map (some w.heap.size), .bool false, .int .i64 (-1)] 51)
    simpa using this
  · rw [Below.heap_alloc _ _ _ (by simp)]; exact heap_alloc_last w _
theorem RN.facts {w wr : World} {rb mb i : Nat} {sv : Value} (h : RN w rb mb i sv wr) : wr.cell? ⟨rb, 0, none⟩ = some sv ∧ wr.frozen? ⟨rb, 0, none⟩ = false ∧ rb < wr.heap.size := by
  exact ⟨by simp [World.cell?, h.hd], by simp [World.frozen?, h.hd], lt_of_block h.hd⟩

theorem RN.mid {w wr w2 : World} {rb mb i : Nat} {sv : Value} {o1 o2 : Obj} (h : RN w rb mb i sv wr) (hg : ((wr.alloc o1).alloc o2).drew.grownBy w2 sv.ownBlock) :
    w2.cell? ⟨rb, 0, none⟩ = some sv ∧ w2.frozen? ⟨rb, 0, none⟩ = false := by
  have k : Keeps (fun j => sv.ownBlock = some j) wr w2 := Keeps.grown (((((Keeps.refl (fun j => sv.ownBlock = some j) wr).alloc o1).alloc o2).drew)) hg (fun k e => .inl e)
  obtain ⟨h1, h2, h3⟩ := h.facts
  exact ⟨by rw [k.cell (p := ⟨rb, 0, none⟩) h3 h.svr]; exact h1, by rw [k.frozen (p := ⟨rb, 0, none⟩) h3 h.svr]; exact h2⟩
theorem RN.next {w wr w2 : World} {rb mb i : Nat} {sv : Value} {o1 o2 : Obj} {p : Option Addr} {c : Nat} (h : RN w rb mb i sv wr) (hg : ((wr.alloc o1).alloc o2).drew.grownBy w2 sv.ownBlock)
    (ho : w2.ownsRow 0 9 1 (.slice p (i + 1) c) (i + 1) (List.replicate i (strv (rep64 0)) ++ [.string z64]))
    (hs : ∀ k, (Value.slice p (i + 1) c).ownBlock = some k → sv.ownBlock = some k ∨ ((wr.alloc o1).alloc o2).drew.heap.size ≤ k) : RN w rb mb (i + 1) (.slice p (i + 1) c) (w2.setCell ⟨rb, 0, none⟩ (.slice p (i + 1) c)) := by
  have k : Keeps (fun j => sv.ownBlock = some j) wr w2 := Keeps.grown (((((Keeps.refl (fun j => sv.ownBlock = some j) wr).alloc o1).alloc o2).drew)) hg (fun k e => .inl e)
  have k2 : Keeps (fun j => j = rb) w2 (w2.setCell ⟨rb, 0, none⟩ (.slice p (i + 1) c)) := (Keeps.refl (fun j => j = rb) _).setCell (p := ⟨rb, 0, none⟩) (.inl rfl) _
  have hsz : wr.heap.size ≤ ((wr.alloc o1).alloc o2).drew.heap.size := ((((Keeps.refl (fun j => sv.ownBlock = some j) wr).alloc o1).alloc o2).drew).size
  have lrb := lt_of_block h.hd
  have lmb := lt_of_block h.mp
  have hw := h.keeps.size
  have hvr : (Value.slice p (i + 1) c).ownBlock ≠ some rb := fun e => by rcases hs rb e with e | e; exact h.svr e; omega
  have hvm : (Value.slice p (i + 1) c).ownBlock ≠ some mb := fun e => by rcases hs mb e with e | e; exact h.svm e; omega
  have hrm : mb ≠ rb := fun e => by have h1 := h.hd; have h2 := h.mp; rw [e, h1] at h2; cases h2
  refine ⟨?_, ?_, ?_, hvr, hvm, fun j e => ?_, h.rb1, h.mb1, ?_⟩
  · have := k.block rb lrb h.svr
    simpa using heap_put (this.trans h.hd) 0 (.slice p (i + 1) c)
  · have := k2.ownsRow ho (fun j e1 e2 => hvr (by rw [e1, e2]))
    rw [List.replicate_succ']; exact this
  · rw [k2.block mb (Nat.lt_of_lt_of_le lmb k.size) (fun e => hrm e), k.block mb lmb h.svm]; exact h.mp
  · rcases hs j e with e | e
    · exact h.sv1 j e
    · omega
  · exact (h.keeps.trans' k (fun j e => .inr (h.sv1 j e))).trans' k2 (fun j e => .inr (by subst e; exact h.rb1))
theorem RN.done {w wr : World} {n rb mb : Nat} {sv : Value} (h : RN w rb mb n sv wr) (h1 : 1 ≤ n) (h2 : n ≤ 1024) : RNew n w (.returned (.pointer (some ⟨rb, 0, none⟩))) wr := by
  have hrm : mb ≠ rb := fun e => by have h1 := h.hd; have h2 := h.mp; rw [e, h1] at h2; cases h2
  refine ⟨rb, sv, .slice none 0 0, mb, rfl, fun b bs => ?_, ?_, h.keeps⟩
  · refine ⟨h1, h2, h.hd, ?_, World.ownsRow_nil _ _ _ _, ⟨.map [], owns_new h.mp, isMap_empty, h2, fun i _ => by simp [fresh]; rfl, fun i _ hi => by simp [fresh] at hi⟩, h.svr, by simp [Value.ownBlock], hrm, fun _ _ => by simp [Value.ownBlock], h.svm, by simp [Value.ownBlock],
      by simp [fresh], by simp [fresh], fun _ _ _ => rfl, fun _ _ => rep64_len 0, fun _ _ => rep64_len 0, fun _ => .inr ⟨rfl, by simp [fresh]⟩, fun _ => rfl, by omega, by omega⟩
    have := h.st
    refine cast (congrArg _ ?_) this
    apply List.ext_getElem?
    intro j
    by_cases hj : j < n
    · simp [hj, fresh]
    · simp [hj, fresh]
  · rintro k (e | e | e | e)
    · subst e; exact h.rb1
    · exact h.sv1 k e
    · simp [Value.ownBlock] at e
    · subst e; exact h.mb1

set_option maxRecDepth 100000 in
set_option maxHeartbeats 2000000 in
theorem rnew_any (n : Nat) (w : World) (h1 : 1 ≤ n) (h2 : n ≤ 1024) :
    Calls Try.prog 20 #[.int .i64 n] w (RNew n w) := by
  have hmm := @run_makeMap Try.prog
  obtain ⟨i0, hi0, hz0, hz1, hz2⟩ := info_parts strInfo
  go_enter Try.func20, Try.ntmps20
  go_wp2_with fail
  go_loopw [4] (fun iv wr => ∃ i : Nat, i ≤ n ∧ iv = .int .i64 i ∧ ∃ q c, Hid (RN w (w.heap.size + 1) w.heap.size i (.slice q i c) wr)) (fun iv _ => n - (intOf iv).toNat)
  case atStart => exact ⟨0, by omega, rfl, none, 0, RN.start w⟩
  case round =>
    obtain ⟨i, hi, rfl, q, c, hP⟩ := hrel
    by_cases hlt : i < n
    · obtain ⟨hc0, hf0, hrl⟩ := hP.out.facts
      have hrl2 : w.heap.size < wr.heap.size := by omega
      have hrl3 : w.heap.size + 1 < wr.heap.size + 1 := by omega
      obtain ⟨X, hmk, hcv⟩ := made64 wr
      obtain ⟨zz, hzz⟩ : ∃ zz, zz = z64 := ⟨_, rfl⟩
      rw [← hzz] at hcv
      have hzz' := Lib.hid hzz; clear hzz
      go_wp2_with fail
      refine wp_region_noPanic ?_
      refine wp_region_held_drew (S := (fun _ => True)) (by kernel_rfl) (trivial) (fun hHeld => ?_)
      refine takeL 0 (v := ?_) rfl (by kernel_rfl) (by kernel_rfl) (by kernel_rfl) (fun _ _ _ h => h) (Or.inl ⟨by rfl, ?_⟩) (by assumption) ?_
      rotate_left
      · (intro wS hSw; go_simp; try with_reducible rfl)
      try simp only [Act.put, List.setIfInBounds_toArray, List.set_cons_zero, List.set_cons_succ]
      refine takeL 1 (v := ?_) rfl (by kernel_rfl) (by kernel_rfl) (by kernel_rfl) (fun _ _ _ h => h) (Or.inl ⟨by rfl, ?_⟩) (by assumption) ?_
      rotate_left
      · (intro wS hSw; go_simp; try with_reducible rfl)
      try simp only [Act.put, List.setIfInBounds_toArray, List.set_cons_zero, List.set_cons_succ]
      refine takeL 2 (v := ?_) rfl (by kernel_rfl) (by kernel_rfl) (by kernel_rfl) (fun _ _ _ h => h) (Or.inl ⟨by rfl, ?_⟩) (by assumption) ?_
      rotate_left
      · (intro wS hSw; go_simp; try with_reducible rfl)
      try simp only [Act.put, List.setIfInBounds_toArray, List.set_cons_zero, List.set_cons_succ]
      refine takeL 3 (v := ?_) rfl (by kernel_rfl) (by kernel_rfl) (by kernel_rfl) (fun _ _ _ h => h) (Or.inl ⟨by rfl, ?_⟩) (by assumption) ?_
      rotate_left
      · (intro wS hSw; go_simp; try with_reducible rfl)
      try simp only [Act.put, List.setIfInBounds_toArray, List.set_cons_zero, List.set_cons_succ]
      refine step2L 4 5 rfl rfl (by kernel_rfl) (fun K hK => ?_) (fun K hK => ?_)
      · skip
        go_simp
        refine hK.out _ _ (trivial) (fun hHeld => ?_)
        clear hK K
        try simp only [Act.put, List.setIfInBounds_toArray, List.set_cons_zero, List.set_cons_succ]
        refine stepL 5 rfl (by kernel_rfl) (fun K hK => ?_)
        go_simp
        refine hK.out _ _ (trivial) (fun hHeld => ?_)
        clear hK K
        try simp only [Act.put, List.setIfInBounds_toArray, List.set_cons_zero, List.set_cons_succ]
        refine stepL 6 rfl (by kernel_rfl) (fun K hK => ?_)
        go_simp
        refine hK.out _ _ (trivial) (fun hHeld => ?_)
        clear hK K
        try simp only [Act.put, List.setIfInBounds_toArray, List.set_cons_zero, List.set_cons_succ]
        refine stepL 7 rfl (by kernel_rfl) (fun K hK => ?_)
        go_simp
        refine hK.out _ _ (trivial) (fun hHeld => ?_)
        clear hK K
        try simp only [Act.put, List.setIfInBounds_toArray, List.set_cons_zero, List.set_cons_succ]
        refine stepL 8 rfl (by kernel_rfl) (fun K hK => ?_)
        rw [if_pos (by rfl)]
        (refine wp_append_sep (.tmp 17) (.tmp 20) 47 rfl 9 i0 (strv []) 1 16 Try.underlying47 hi0 hz0 hz1 hz2 rfl (by decide) _ _ _ rfl (by exact (World.ownsRow.alloc (World.ownsRow.alloc hP.out.st _) _)) ⟨wr.heap.size + 1, 0, none⟩ 1 1 [.string zz] rfl rfl (by exact cells_one (w := wr.alloc _) (by simp) _ _) (by simp; rfl) (by unfold maxLen; omega) (by omega) ?_; intro p' c' w2 ho2 hg2 hs2; obtain ⟨m1, m2⟩ := RN.mid hP.out hg2)
        refine hK.out _ _ (trivial) (fun hHeld => ?_)
        clear hK K
        try simp only [Act.put, List.setIfInBounds_toArray, List.set_cons_zero, List.set_cons_succ]
        refine takeL 9 (v := ?_) rfl (by kernel_rfl) (by kernel_rfl) (by kernel_rfl) (fun _ _ _ h => h) (Or.inl ⟨by rfl, ?_⟩) (by assumption) ?_
        rotate_left
        · (intro wS hSw; go_simp; try with_reducible rfl)
        try simp only [Act.put, List.setIfInBounds_toArray, List.set_cons_zero, List.set_cons_succ]
        refine takeL 10 (v := ?_) rfl (by kernel_rfl) (by kernel_rfl) (by kernel_rfl) (fun _ _ _ h => h) (Or.inl ⟨by rfl, ?_⟩) (by assumption) ?_
        rotate_left
        · (intro wS hSw; go_simp; try with_reducible rfl)
        try simp only [Act.put, List.setIfInBounds_toArray, List.set_cons_zero, List.set_cons_succ]
        refine stepL 11 rfl (by kernel_rfl) (fun K hK => ?_)
        go_simp
        refine hK.out _ _ (trivial) (fun hHeld => ?_)
        clear hK K
        try simp only [Act.put, List.setIfInBounds_toArray, List.set_cons_zero, List.set_cons_succ]
        refine wpAnyH_done (by kernel_rfl) (NoPanic.normal ?_) _
        go_wp2_with fail
        exact ⟨⟨i + 1, by omega, by go_num, p', c', by have hzz := hzz'.out; subst hzz; exact hP.out.next hg2 ho2 hs2.out⟩, by simp [intOf]; omega⟩
      · skip
        go_simp
        refine hK.out _ _ (trivial) (fun hHeld => ?_)
        clear hK K
        try simp only [Act.put, List.setIfInBounds_toArray, List.set_cons_zero, List.set_cons_succ]
        refine step2L 4 6 rfl rfl (by kernel_rfl) (fun K hK => ?_) (fun K hK => ?_)
        · skip
          go_simp
          refine hK.out _ _ (trivial) (fun hHeld => ?_)
          clear hK K
          try simp only [Act.put, List.setIfInBounds_toArray, List.set_cons_zero, List.set_cons_succ]
          refine stepL 6 rfl (by kernel_rfl) (fun K hK => ?_)
          go_simp
          refine hK.out _ _ (trivial) (fun hHeld => ?_)
          clear hK K
          try simp only [Act.put, List.setIfInBounds_toArray, List.set_cons_zero, List.set_cons_succ]
          refine stepL 7 rfl (by kernel_rfl) (fun K hK => ?_)
          go_simp
          refine hK.out _ _ (trivial) (fun hHeld => ?_)
          clear hK K
          try simp only [Act.put, List.setIfInBounds_toArray, List.set_cons_zero, List.set_cons_succ]
          refine stepL 8 rfl (by kernel_rfl) (fun K hK => ?_)
          rw [if_pos (by rfl)]
          (refine wp_append_sep (.tmp 17) (.tmp 20) 47 rfl 9 i0 (strv []) 1 16 Try.underlying47 hi0 hz0 hz1 hz2 rfl (by decide) _ _ _ rfl (by exact (World.ownsRow.alloc (World.ownsRow.alloc hP.out.st _) _)) ⟨wr.heap.size + 1, 0, none⟩ 1 1 [.string zz] rfl rfl (by exact cells_one (w := wr.alloc _) (by simp) _ _) (by simp; rfl) (by unfold maxLen; omega) (by omega) ?_; intro p' c' w2 ho2 hg2 hs2; obtain ⟨m1, m2⟩ := RN.mid hP.out hg2)
          refine hK.out _ _ (trivial) (fun hHeld => ?_)
          clear hK K
          try simp only [Act.put, List.setIfInBounds_toArray, List.set_cons_zero, List.set_cons_succ]
          refine takeL 9 (v := ?_) rfl (by kernel_rfl) (by kernel_rfl) (by kernel_rfl) (fun _ _ _ h => h) (Or.inl ⟨by rfl, ?_⟩) (by assumption) ?_
          rotate_left
          · (intro wS hSw; go_simp; try with_reducible rfl)
          try simp only [Act.put, List.setIfInBounds_toArray, List.set_cons_zero, List.set_cons_succ]
          refine takeL 10 (v := ?_) rfl (by kernel_rfl) (by kernel_rfl) (by kernel_rfl) (fun _ _ _ h => h) (Or.inl ⟨by rfl, ?_⟩) (by assumption) ?_
          rotate_left
          · (intro wS hSw; go_simp; try with_reducible rfl)
          try simp only [Act.put, List.setIfInBounds_toArray, List.set_cons_zero, List.set_cons_succ]
          refine stepL 11 rfl (by kernel_rfl) (fun K hK => ?_)
          go_simp
          refine hK.out _ _ (trivial) (fun hHeld => ?_)
          clear hK K
          try simp only [Act.put, List.setIfInBounds_toArray, List.set_cons_zero, List.set_cons_succ]
          refine wpAnyH_done (by kernel_rfl) (NoPanic.normal ?_) _
          go_wp2_with fail
          exact ⟨⟨i + 1, by omega, by go_num, p', c', by have hzz := hzz'.out; subst hzz; exact hP.out.next hg2 ho2 hs2.out⟩, by simp [intOf]; omega⟩
        · skip
          go_simp
          refine hK.out _ _ (trivial) (fun hHeld => ?_)
          clear hK K
          try simp only [Act.put, List.setIfInBounds_toArray, List.set_cons_zero, List.set_cons_succ]
          refine step2L 4 7 rfl rfl (by kernel_rfl) (fun K hK => ?_) (fun K hK => ?_)
          · skip
            go_simp
            refine hK.out _ _ (trivial) (fun hHeld => ?_)
            clear hK K
            try simp only [Act.put, List.setIfInBounds_toArray, List.set_cons_zero, List.set_cons_succ]
            refine stepL 7 rfl (by kernel_rfl) (fun K hK => ?_)
            go_simp
            refine hK.out _ _ (trivial) (fun hHeld => ?_)
            clear hK K
            try simp only [Act.put, List.setIfInBounds_toArray, List.set_cons_zero, List.set_cons_succ]
            refine stepL 8 rfl (by kernel_rfl) (fun K hK => ?_)
            rw [if_pos (by rfl)]
            (refine wp_append_sep (.tmp 17) (.tmp 20) 47 rfl 9 i0 (strv []) 1 16 Try.underlying47 hi0 hz0 hz1 hz2 rfl (by decide) _ _ _ rfl (by exact (World.ownsRow.alloc (World.ownsRow.alloc hP.out.st _) _)) ⟨wr.heap.size + 1, 0, none⟩ 1 1 [.string zz] rfl rfl (by exact cells_one (w := wr.alloc _) (by simp) _ _) (by simp; rfl) (by unfold maxLen; omega) (by omega) ?_; intro p' c' w2 ho2 hg2 hs2; obtain ⟨m1, m2⟩ := RN.mid hP.out hg2)
            refine hK.out _ _ (trivial) (fun hHeld => ?_)
            clear hK K
            try simp only [Act.put, List.setIfInBounds_toArray, List.set_cons_zero, List.set_cons_succ]
            refine takeL 9 (v := ?_) rfl (by kernel_rfl) (by kernel_rfl) (by kernel_rfl) (fun _ _ _ h => h) (Or.inl ⟨by rfl, ?_⟩) (by assumption) ?_
            rotate_left
            · (intro wS hSw; go_simp; try with_reducible rfl)
            try simp only [Act.put, List.setIfInBounds_toArray, List.set_cons_zero, List.set_cons_succ]
            refine takeL 10 (v := ?_) rfl (by kernel_rfl) (by kernel_rfl) (by kernel_rfl) (fun _ _ _ h => h) (Or.inl ⟨by rfl, ?_⟩) (by assumption) ?_
            rotate_left
            · (intro wS hSw; go_simp; try with_reducible rfl)
            try simp only [Act.put, List.setIfInBounds_toArray, List.set_cons_zero, List.set_cons_succ]
            refine stepL 11 rfl (by kernel_rfl) (fun K hK => ?_)
            go_simp
            refine hK.out _ _ (trivial) (fun hHeld => ?_)
            clear hK K
            try simp only [Act.put, List.setIfInBounds_toArray, List.set_cons_zero, List.set_cons_succ]
            refine wpAnyH_done (by kernel_rfl) (NoPanic.normal ?_) _
            go_wp2_with fail
            exact ⟨⟨i + 1, by omega, by go_num, p', c', by have hzz := hzz'.out; subst hzz; exact hP.out.next hg2 ho2 hs2.out⟩, by simp [intOf]; omega⟩
          · skip
            go_simp
            refine hK.out _ _ (trivial) (fun hHeld => ?_)
            clear hK K
            try simp only [Act.put, List.setIfInBounds_toArray, List.set_cons_zero, List.set_cons_succ]
            refine stepL 4 rfl (by kernel_rfl) (fun K hK => ?_)
            go_simp
            refine hK.out _ _ (trivial) (fun hHeld => ?_)
            clear hK K
            try simp only [Act.put, List.setIfInBounds_toArray, List.set_cons_zero, List.set_cons_succ]
            refine stepL 8 rfl (by kernel_rfl) (fun K hK => ?_)
            rw [if_pos (by rfl)]
            (refine wp_append_sep (.tmp 17) (.tmp 20) 47 rfl 9 i0 (strv []) 1 16 Try.underlying47 hi0 hz0 hz1 hz2 rfl (by decide) _ _ _ rfl (by exact (World.ownsRow.alloc (World.ownsRow.alloc hP.out.st _) _)) ⟨wr.heap.size + 1, 0, none⟩ 1 1 [.string zz] rfl rfl (by exact cells_one (w := wr.alloc _) (by simp) _ _) (by simp; rfl) (by unfold maxLen; omega) (by omega) ?_; intro p' c' w2 ho2 hg2 hs2; obtain ⟨m1, m2⟩ := RN.mid hP.out hg2)
            refine hK.out _ _ (trivial) (fun hHeld => ?_)
            clear hK K
            try simp only [Act.put, List.setIfInBounds_toArray, List.set_cons_zero, List.set_cons_succ]
            refine takeL 9 (v := ?_) rfl (by kernel_rfl) (by kernel_rfl) (by kernel_rfl) (fun _ _ _ h => h) (Or.inl ⟨by rfl, ?_⟩) (by assumption) ?_
            rotate_left
            · (intro wS hSw; go_simp; try with_reducible rfl)
            try simp only [Act.put, List.setIfInBounds_toArray, List.set_cons_zero, List.set_cons_succ]
            refine takeL 10 (v := ?_) rfl (by kernel_rfl) (by kernel_rfl) (by kernel_rfl) (fun _ _ _ h => h) (Or.inl ⟨by rfl, ?_⟩) (by assumption) ?_
            rotate_left
            · (intro wS hSw; go_simp; try with_reducible rfl)
            try simp only [Act.put, List.setIfInBounds_toArray, List.set_cons_zero, List.set_cons_succ]
            refine stepL 11 rfl (by kernel_rfl) (fun K hK => ?_)
            go_simp
            refine hK.out _ _ (trivial) (fun hHeld => ?_)
            clear hK K
            try simp only [Act.put, List.setIfInBounds_toArray, List.set_cons_zero, List.set_cons_succ]
            refine wpAnyH_done (by kernel_rfl) (NoPanic.normal ?_) _
            go_wp2_with fail
            exact ⟨⟨i + 1, by omega, by go_num, p', c', by have hzz := hzz'.out; subst hzz; exact hP.out.next hg2 ho2 hs2.out⟩, by simp [intOf]; omega⟩
    · go_wp2_with fail
      go_ret
      obtain rfl : i = n := by omega
      exact hP.out.done h1 h2
end Go.Proofs.Ytoigepaanhjnfaa
