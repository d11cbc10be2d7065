/- SchemaRows, walked. -/
import Derived.Test.YtdgacnkfljcbpaaDoorSDI
import Derived.Test.YtdgacnkfljcbpaaDoorSDE
import Derived.Deep.RegionHeld3
namespace Go.Proofs.YtdgacnkfljcbpaaDoor
open Go.RowKit

/-! steps through a region that draws its order, the operation read off the list -/
section
variable {P : Program} {l : List Oper} {Q : Exit → Act → World → Prop} {md : Region.Mode} {S : World → Prop}
theorem takeL (i : Nat) {oi : Oper} {v : Value} {fuel : Nat} {listed : Array Bool} {a : Act} {w : World} (hi : l[i]? = some oi)
    (hs : Region.noSelect l.toArray = true) (hf : Region.free md l.toArray listed i = true) (hr : (Region.ready md l.toArray listed).contains i = true)
    (hQ : ∀ c a w, Q (.panic c) (a.put oi.dst v) w → Q (.panic c) a w) (hy : YieldsIf P l.toArray S oi v a) (hS : S w)
    (h : wpAnyH P md l.toArray Q S fuel (listed.setIfInBounds i true) (a.put oi.dst v) w) : wpAnyH P md l.toArray Q S (fuel + 1) listed a w :=
  wpAnyH_take (i := i) (by simpa using hi) hs hf hr hQ hy hS h
theorem step2L (i j : Nat) {fuel : Nat} {listed : Array Bool} {a : Act} {w : World} {o u : Oper} (ho : l[i]? = some o) (hu : l[j]? = some u) (hr : Region.ready md l.toArray listed = [i, j])
    (h : ∀ K' : Act → World → Prop, Shut (∀ a w, S w → (S w → wpAnyH P md l.toArray Q S fuel (listed.setIfInBounds i true) a w) → K' a w) → if Region.wanted o (yielded l.toArray a.tmps) = true then Oper.wp P o a w K' Q else K' (a.put o.dst undef) w)
    (h2 : ∀ K' : Act → World → Prop, Shut (∀ a w, S w → (S w → wpAnyH P md l.toArray Q S fuel (listed.setIfInBounds j true) a w) → K' a w) → if Region.wanted u (yielded l.toArray a.tmps) = true then Oper.wp P u a w K' Q else K' (a.put u.dst undef) w) :
    wpAnyH P md l.toArray Q S (fuel + 1) listed a w :=
  wpAnyH_ready hr (by simp) (AllReadyH.cons (by simpa using ho) h (AllReadyH.cons (by simpa using hu) h2 AllReadyH.nil))
theorem stepL (i : Nat) {fuel : Nat} {listed : Array Bool} {a : Act} {w : World} {o : Oper} (ho : l[i]? = some o) (hr : Region.ready md l.toArray listed = [i])
    (h : ∀ K' : Act → World → Prop, Shut (∀ a w, S w → (S w → wpAnyH P md l.toArray Q S fuel (listed.setIfInBounds i true) a w) → K' a w) → if Region.wanted o (yielded l.toArray a.tmps) = true then Oper.wp P o a w K' Q else K' (a.put o.dst undef) w) :
    wpAnyH P md l.toArray Q S (fuel + 1) listed a w :=
  wpAnyH_ready hr (by simp) (AllReadyH.cons (by simpa using ho) h AllReadyH.nil)
end


/-- what a round's region keeps: both tables' rows, and all that there was -/
structure RowS (g1 g2 o : Nat) (L1 L2 : List Value) (p1 p2 : Option Addr) (n1 n2 c1 c2 : Nat) (cs : List (List UInt8)) (w0 W : World) : Prop where
  r1 : W.rangeAt g1 o L1
  r2 : W.rangeAt g2 o L2
  s1 : StrsAt W (.slice p1 n1 c1) cs
  s2 : StrsAt W (.slice p2 n2 c2) cs
  k : Keeps (fun _ => False) w0 W
theorem RowS.next {g1 g2 o : Nat} {L1 L2 : List Value} {p1 p2 : Option Addr} {n1 n2 c1 c2 : Nat} {cs : List (List UInt8)} {w0 W W' : World} (h : RowS g1 g2 o L1 L2 p1 p2 n1 n2 c1 c2 cs w0 W) (k : Keeps (fun _ => False) W W') : RowS g1 g2 o L1 L2 p1 p2 n1 n2 c1 c2 cs w0 W' :=
  ⟨k.rangeAt h.r1 id, k.rangeAt h.r2 id, h.s1.keep k (fun _ _ _ f => f), h.s2.keep k (fun _ _ _ f => f), h.k.trans k⟩

theorem wpList_load_mid_g {P : Program} {ops : Array Oper} {rest : List Oper} {op : Oper} {a : Act} {w : World} {Q : Exit → Act → World → Prop} (hgd : Region.wanted op (yielded ops a.tmps) = true) (ty : TypeId) (x : Operand) (ho : op.op = .load ty x)
    (b o : Nat) (hx : a.eval x = .pointer (some ⟨b, o, none⟩)) (cs : List Value) (d : TypeDesc) (hc : w.rangeAt b o cs)
    (hu : P.underlying ty = some d) (hd : d.isRow = true) (hi : (P.info? ty).map (·.size) = some cs.length)
    (h : wpList P ops Q rest (a.put op.dst (.agg cs.toArray)) w) : wpList P ops Q (op :: rest) a w :=
  wpList_step fun K hK => by rw [if_pos hgd]; exact wp_load_mid ty x ho b o hx cs d hc hu hd hi (hK _ _ h)
theorem find_no (head : Int) (nm : ByteArray) (w : World) (h : Hid (findD head nm.data.toList = none)) :
    Calls Tryd.prog 20 #[.int .i64 head, .string nm] w fun e w' => e = .returned (.tuple #[.agg #[.int .i64 0, .string ⟨#[]⟩, .int .i64 0, .int .i64 0, .int .i64 0, .slice none 0 0, .string ⟨#[]⟩, .int .i64 0], .bool false]) ∧ Keeps (fun _ => False) w w' := find_any head nm none w h
theorem rFind_no (head : Int) (nm : ByteArray) (w : World) (h : Hid (findD head nm.data.toList = none)) :
    Calls Tryd.prog 21 #[.int .i64 head, .string nm] w fun e w' => e = .returned (.tuple #[.agg #[.int .i64 0, .string ⟨#[]⟩, .int .i64 0, .int .i64 0, .int .i64 0, .slice none 0 0, .string ⟨#[]⟩, .int .i64 0], .bool false]) ∧ Keeps (fun _ => False) w w' := rFind_any head nm none w h
theorem find_yes (head : Int) (nm : ByteArray) (r : RowD) (N F : ByteArray) (w : World) (h : Hid (findD head nm.data.toList = some r)) (hN : Hid (N = ⟨r.name.toArray⟩)) (hF : Hid (F = ⟨r.df.toArray⟩)) :
    Calls Tryd.prog 20 #[.int .i64 head, .string nm] w fun e w' => ∃ p cc, e = .returned (.tuple #[.agg #[.int .i64 r.head, .string N, .int .i64 r.kind, .int .i64 r.lo, .int .i64 r.hi, .slice p r.cs.length cc, .string F, .int .i64 r.cl], .bool true]) ∧ StrsAt w' (.slice p r.cs.length cc) r.cs ∧ Keeps (fun _ => False) w w' := by
  rw [hN.out, hF.out]; exact find_any head nm (some r) w h
theorem rFind_yes (head : Int) (nm : ByteArray) (r : RowD) (N F : ByteArray) (w : World) (h : Hid (findD head nm.data.toList = some r)) (hN : Hid (N = ⟨r.name.toArray⟩)) (hF : Hid (F = ⟨r.df.toArray⟩)) :
    Calls Tryd.prog 21 #[.int .i64 head, .string nm] w fun e w' => ∃ p cc, e = .returned (.tuple #[.agg #[.int .i64 r.head, .string N, .int .i64 r.kind, .int .i64 r.lo, .int .i64 r.hi, .slice p r.cs.length cc, .string F, .int .i64 r.cl], .bool true]) ∧ StrsAt w' (.slice p r.cs.length cc) r.cs ∧ Keeps (fun _ => False) w w' := by
  rw [hN.out, hF.out]; exact rFind_any head nm (some r) w h
theorem new_range (w w' : World) (L : List Value) (t : TypeId) (k : Keeps (fun _ => False) (w.alloc (.cells L.toArray t)) w') : w'.rangeAt w.heap.size 0 L := by
  refine k.rangeAt (fun j u hu => ?_) id
  have := cells_new (w := w) (n := w.heap.size) rfl L t j u hu
  rw [Addr.add_mid] at this; exact this

set_option maxRecDepth 100000 in
set_option maxHeartbeats 4000000 in
theorem schemaRows_law (head : Int) (s v : ByteArray) (w : World) (hs : s.size ≤ 9223372036854775807) (hv : v.size ≤ 9223372036854775807) (ht : Hid (TabOk w)) :
    Calls Tryd.prog 4 #[.int .i64 head, .string s, .string v] w (lawEnd w) := by
  go_enter Tryd.func4, Tryd.ntmps4
  go_wp2
  go_quiet (fail)
  go_wp2_with fail
  obtain ⟨a, ha⟩ : ∃ a : ByteArray, a = s.extract 0 (min (s.size : Int) 60).toNat := ⟨_, rfl⟩
  obtain ⟨b, hb⟩ : ∃ b : ByteArray, b = v.extract 0 (min (v.size : Int) 60).toNat := ⟨_, rfl⟩
  have has : a.size ≤ 60 := by rw [ha]; exact Nat.le_trans (show (s.extract 0 _).size ≤ _ by rw [ByteArray.size_extract]; exact Nat.le_trans (Nat.sub_le _ _) (Nat.min_le_left _ _)) (by omega)
  have hbs : b.size ≤ 60 := by rw [hb]; exact Nat.le_trans (show (v.extract 0 _).size ≤ _ by rw [ByteArray.size_extract]; exact Nat.le_trans (Nat.sub_le _ _) (Nat.min_le_left _ _)) (by omega)
  rw [← ha, ← hb]
  have ha' := Lib.hid ha; have hb' := Lib.hid hb; clear ha hb
  refine (table_any _).mono ?_
  rintro e w1 ⟨g1, rfl, hg1, t1, k1⟩
  have t1' := Lib.hid t1; have k1' := Lib.hid (((Keeps.refl (fun _ => False) w).drewN nq).trans k1); clear t1 k1 hg1
  go_wp2_with fail
  refine (rTable_any _).mono ?_
  rintro e w2 ⟨g2, rfl, hg2, t2, k2⟩
  have t1b := Lib.hid (t1'.out.keep k2); have t2' := Lib.hid t2; have k2' := Lib.hid (k1'.out.trans k2); clear t2 k2 hg2 t1' k1'
  have ht2 := Lib.hid (ht.out.keep k2'.out)
  go_wp2_with fail
  refine (reads4_any _ ht2).mono ?_
  rintro e w3 ⟨rfl, k3⟩
  have t1c := Lib.hid (t1b.out.keep k3); have t2c := Lib.hid (t2'.out.keep k3); have k3' := Lib.hid (k2'.out.trans k3); clear k3 t1b t2' k2' ht2
  go_wp2_with fail
  go_loopw [9] (fun i wr => ∃ k : Nat, k ≤ 12 ∧ i = .int .i64 k ∧ Hid (Keeps (fun _ => False) w3 wr)) (fun i _ => 12 - (intOf i).toNat)
  case atStart => exact ⟨0, by omega, rfl, Lib.hid (Keeps.refl _ _)⟩
  case round =>
    obtain ⟨k, hk12, rfl, hkr⟩ := hrel
    by_cases hlt : k < 12
    · obtain ⟨r, hr⟩ : ∃ r, tableD[k]? = some r := ⟨_, List.getElem?_eq_getElem (show k < tableD.length from hlt)⟩
      obtain ⟨cv1, hra1, hcs1, -⟩ := (t1c.out.keep hkr.out) k r hr
      obtain ⟨cv2, hra2, hcs2, -⟩ := (t2c.out.keep hkr.out) k r hr
      obtain ⟨p1, c1, rfl, hp1⟩ := hcs1
      obtain ⟨p2, c2, rfl, hp2⟩ := hcs2
      obtain ⟨N, hN⟩ : ∃ N : ByteArray, N = ⟨r.name.toArray⟩ := ⟨_, rfl⟩
      obtain ⟨F, hF⟩ : ∃ F : ByteArray, F = ⟨r.df.toArray⟩ := ⟨_, rfl⟩
      have hS0 : Hid (RowS g1 g2 (k * 8) [.int .i64 r.head, .string N, .int .i64 r.kind, .int .i64 r.lo, .int .i64 r.hi, .slice p1 r.cs.length c1, .string F, .int .i64 r.cl] [.int .i64 r.head, .string N, .int .i64 r.kind, .int .i64 r.lo, .int .i64 r.hi, .slice p2 r.cs.length c2, .string F, .int .i64 r.cl] p1 p2 r.cs.length r.cs.length c1 c2 r.cs wr wr) := Lib.hid ⟨by rw [hN, hF]; exact hra1, by rw [hN, hF]; exact hra2, ⟨p1, c1, rfl, hp1⟩, ⟨p2, c2, rfl, hp2⟩, Keeps.refl _ _⟩
      have hcl : r.cs.length ≤ 1000 := by
        have : ∀ q ∈ tableD, q.cs.length ≤ 1000 := by decide
        exact this r (List.mem_of_getElem? hr)
      obtain ⟨z, hz⟩ : ∃ z, rightB r.kind r.lo r.hi r.cs b.data.toList = z := ⟨_, rfl⟩
      have hz' := Lib.hid hz
      clear hra1 hra2 hp1 hp2 hN hF hr hz
      have hzz : (z != z) = false := by simp
      go_wp2
      refine wp_region_noPanic ?_
      refine wp_region_held_drew (S := (fun W => RowS g1 g2 (k * 8) [.int .i64 r.head, .string N, .int .i64 r.kind, .int .i64 r.lo, .int .i64 r.hi, .slice p1 r.cs.length c1, .string F, .int .i64 r.cl] [.int .i64 r.head, .string N, .int .i64 r.kind, .int .i64 r.lo, .int .i64 r.hi, .slice p2 r.cs.length c2, .string F, .int .i64 r.cl] p1 p2 r.cs.length r.cs.length c1 c2 r.cs wr W)) (by kernel_rfl) (hS0.out.next ((Keeps.refl _ _).drew)) (fun hHeld => ?_)
      refine takeL 0 (v := ?_) rfl (by kernel_rfl) (by kernel_rfl) (by kernel_rfl) (fun _ _ _ h => h) (Or.inl ⟨by rfl, ?_⟩) (by assumption) ?_
      rotate_left
      · (intro wS hSw; go_simp; try with_reducible rfl)
      try simp only [Act.put, List.setIfInBounds_toArray, List.set_cons_zero, List.set_cons_succ]
      refine takeL 1 (v := ?_) rfl (by kernel_rfl) (by kernel_rfl) (by kernel_rfl) (fun _ _ _ h => h) (Or.inl ⟨by rfl, ?_⟩) (by assumption) ?_
      rotate_left
      · (intro wS hSw; go_simp; try with_reducible rfl)
      try simp only [Act.put, List.setIfInBounds_toArray, List.set_cons_zero, List.set_cons_succ]
      refine takeL 2 (v := ?_) rfl (by kernel_rfl) (by kernel_rfl) (by kernel_rfl) (fun _ _ _ h => h) (Or.inl ⟨by rfl, ?_⟩) (by assumption) ?_
      rotate_left
      · (intro wS hSw; go_simp; try with_reducible rfl)
      try simp only [Act.put, List.setIfInBounds_toArray, List.set_cons_zero, List.set_cons_succ]
      refine takeL 3 rfl (by kernel_rfl) (by kernel_rfl) (by kernel_rfl) (fun _ _ _ h => h) (yieldsIf_load_mid (by rfl) 39 (.tmp 43) rfl g1 (k * 8) rfl [.int .i64 r.head, .string N, .int .i64 r.kind, .int .i64 r.lo, .int .i64 r.hi, .slice p1 r.cs.length c1, .string F, .int .i64 r.cl] _ (fun _ h => h.r1) Tryd.underlying39 rfl rowInfo) (by assumption) ?_
      try simp only [Act.put, List.setIfInBounds_toArray, List.set_cons_zero, List.set_cons_succ]
      refine takeL 4 (v := ?_) rfl (by kernel_rfl) (by kernel_rfl) (by kernel_rfl) (fun _ _ _ h => h) (Or.inl ⟨by rfl, ?_⟩) (by assumption) ?_
      rotate_left
      · (intro wS hSw; go_simp; try with_reducible rfl)
      try simp only [Act.put, List.setIfInBounds_toArray, List.set_cons_zero, List.set_cons_succ]
      refine takeL 5 (v := ?_) rfl (by kernel_rfl) (by kernel_rfl) (by kernel_rfl) (fun _ _ _ h => h) (Or.inl ⟨by rfl, ?_⟩) (by assumption) ?_
      rotate_left
      · (intro wS hSw; go_simp; try with_reducible rfl)
      try simp only [Act.put, List.setIfInBounds_toArray, List.set_cons_zero, List.set_cons_succ]
      refine takeL 6 (v := ?_) rfl (by kernel_rfl) (by kernel_rfl) (by kernel_rfl) (fun _ _ _ h => h) (Or.inl ⟨by rfl, ?_⟩) (by assumption) ?_
      rotate_left
      · (intro wS hSw; go_simp; try with_reducible rfl)
      try simp only [Act.put, List.setIfInBounds_toArray, List.set_cons_zero, List.set_cons_succ]
      refine takeL 7 rfl (by kernel_rfl) (by kernel_rfl) (by kernel_rfl) (fun _ _ _ h => h) (yieldsIf_load_mid (by rfl) 40 (.tmp 47) rfl g2 (k * 8) rfl [.int .i64 r.head, .string N, .int .i64 r.kind, .int .i64 r.lo, .int .i64 r.hi, .slice p2 r.cs.length c2, .string F, .int .i64 r.cl] _ (fun _ h => h.r2) Tryd.underlying40 rfl rowInfo4) (by assumption) ?_
      try simp only [Act.put, List.setIfInBounds_toArray, List.set_cons_zero, List.set_cons_succ]
      refine stepL 8 rfl (by kernel_rfl) (fun K hK => ?_)
      go_simp
      (refine (alike_same r.head r.kind r.lo r.hi r.cl N F p1 p2 c1 c2 r.cs _ hcl (Lib.hid hHeld.s1) (Lib.hid hHeld.s2)).mono ?_; rintro e w4 ⟨rfl, hk4⟩)
      go_wp2_with fail
      refine hK.out _ _ (hHeld.next hk4) (fun hHeld => ?_)
      clear hK K
      try simp only [Act.put, List.setIfInBounds_toArray, List.set_cons_zero, List.set_cons_succ]
      refine takeL 9 (v := ?_) rfl (by kernel_rfl) (by kernel_rfl) (by kernel_rfl) (fun _ _ _ h => h) (Or.inl ⟨by rfl, ?_⟩) (by assumption) ?_
      rotate_left
      · (intro wS hSw; go_simp; try with_reducible rfl)
      try simp only [Act.put, List.setIfInBounds_toArray, List.set_cons_zero, List.set_cons_succ]
      refine takeL 10 (v := ?_) rfl (by kernel_rfl) (by kernel_rfl) (by kernel_rfl) (fun _ _ _ h => h) (Or.inl ⟨by rfl, ?_⟩) (by assumption) ?_
      rotate_left
      · (intro wS hSw; go_simp; try with_reducible rfl)
      try simp only [Act.put, List.setIfInBounds_toArray, List.set_cons_zero, List.set_cons_succ]
      refine takeL 11 (v := ?_) rfl (by kernel_rfl) (by kernel_rfl) (by kernel_rfl) (fun _ _ _ h => h) (Or.inl ⟨by rfl, ?_⟩) (by assumption) ?_
      rotate_left
      · (intro wS hSw; go_simp; try with_reducible rfl)
      try simp only [Act.put, List.setIfInBounds_toArray, List.set_cons_zero, List.set_cons_succ]
      refine takeL 12 (v := ?_) rfl (by kernel_rfl) (by kernel_rfl) (by kernel_rfl) (fun _ _ _ h => h) (Or.inl ⟨by rfl, ?_⟩) (by assumption) ?_
      rotate_left
      · (intro wS hSw; go_simp; try with_reducible rfl)
      try simp only [Act.put, List.setIfInBounds_toArray, List.set_cons_zero, List.set_cons_succ]
      refine takeL 13 (v := ?_) rfl (by kernel_rfl) (by kernel_rfl) (by kernel_rfl) (fun _ _ _ h => h) (Or.inl ⟨by rfl, ?_⟩) (by assumption) ?_
      rotate_left
      · (intro wS hSw; go_simp; try with_reducible rfl)
      try simp only [Act.put, List.setIfInBounds_toArray, List.set_cons_zero, List.set_cons_succ]
      refine takeL 14 rfl (by kernel_rfl) (by kernel_rfl) (by kernel_rfl) (fun _ _ _ h => h) (yieldsIf_load_mid (by rfl) 39 (.tmp 54) rfl g1 (k * 8) rfl [.int .i64 r.head, .string N, .int .i64 r.kind, .int .i64 r.lo, .int .i64 r.hi, .slice p1 r.cs.length c1, .string F, .int .i64 r.cl] _ (fun _ h => h.r1) Tryd.underlying39 rfl rowInfo) (by assumption) ?_
      try simp only [Act.put, List.setIfInBounds_toArray, List.set_cons_zero, List.set_cons_succ]
      refine takeL 15 (v := ?_) rfl (by kernel_rfl) (by kernel_rfl) (by kernel_rfl) (fun _ _ _ h => h) (Or.inl ⟨by rfl, ?_⟩) (by assumption) ?_
      rotate_left
      · (intro wS hSw; go_simp; try with_reducible rfl)
      try simp only [Act.put, List.setIfInBounds_toArray, List.set_cons_zero, List.set_cons_succ]
      refine takeL 17 (v := ?_) rfl (by kernel_rfl) (by kernel_rfl) (by kernel_rfl) (fun _ _ _ h => h) (Or.inl ⟨by rfl, ?_⟩) (by assumption) ?_
      rotate_left
      · (intro wS hSw; go_simp; try with_reducible rfl)
      try simp only [Act.put, List.setIfInBounds_toArray, List.set_cons_zero, List.set_cons_succ]
      refine takeL 18 (v := ?_) rfl (by kernel_rfl) (by kernel_rfl) (by kernel_rfl) (fun _ _ _ h => h) (Or.inl ⟨by rfl, ?_⟩) (by assumption) ?_
      rotate_left
      · (intro wS hSw; go_simp; try with_reducible rfl)
      try simp only [Act.put, List.setIfInBounds_toArray, List.set_cons_zero, List.set_cons_succ]
      refine takeL 19 (v := ?_) rfl (by kernel_rfl) (by kernel_rfl) (by kernel_rfl) (fun _ _ _ h => h) (Or.inl ⟨by rfl, ?_⟩) (by assumption) ?_
      rotate_left
      · (intro wS hSw; go_simp; try with_reducible rfl)
      try simp only [Act.put, List.setIfInBounds_toArray, List.set_cons_zero, List.set_cons_succ]
      refine takeL 20 rfl (by kernel_rfl) (by kernel_rfl) (by kernel_rfl) (fun _ _ _ h => h) (yieldsIf_load_mid (by rfl) 40 (.tmp 60) rfl g2 (k * 8) rfl [.int .i64 r.head, .string N, .int .i64 r.kind, .int .i64 r.lo, .int .i64 r.hi, .slice p2 r.cs.length c2, .string F, .int .i64 r.cl] _ (fun _ h => h.r2) Tryd.underlying40 rfl rowInfo4) (by assumption) ?_
      try simp only [Act.put, List.setIfInBounds_toArray, List.set_cons_zero, List.set_cons_succ]
      refine takeL 21 (v := ?_) rfl (by kernel_rfl) (by kernel_rfl) (by kernel_rfl) (fun _ _ _ h => h) (Or.inl ⟨by rfl, ?_⟩) (by assumption) ?_
      rotate_left
      · (intro wS hSw; go_simp; try with_reducible rfl)
      try simp only [Act.put, List.setIfInBounds_toArray, List.set_cons_zero, List.set_cons_succ]
      refine stepL 16 rfl (by kernel_rfl) (fun K hK => ?_)
      go_simp
      (refine (right_any r.head N F r.kind r.lo r.hi r.cl p1 c1 r.cs b z _ (by omega) hcl (Lib.hid hHeld.s1) hz').mono ?_; rintro e w5 ⟨rfl, hk5⟩)
      go_wp2_with fail
      refine hK.out _ _ (hHeld.next hk5) (fun hHeld => ?_)
      clear hK K
      try simp only [Act.put, List.setIfInBounds_toArray, List.set_cons_zero, List.set_cons_succ]
      refine stepL 22 rfl (by kernel_rfl) (fun K hK => ?_)
      go_simp
      (refine (rRight_any r.head N F r.kind r.lo r.hi r.cl p2 c2 r.cs b z _ (by omega) hcl (Lib.hid hHeld.s2) hz').mono ?_; rintro e w6 ⟨rfl, hk6⟩)
      go_wp2_with fail
      refine hK.out _ _ (hHeld.next hk6) (fun hHeld => ?_)
      clear hK K
      try simp only [Act.put, List.setIfInBounds_toArray, List.set_cons_zero, List.set_cons_succ]
      refine takeL 23 (v := ?_) rfl (by kernel_rfl) (by kernel_rfl) (by kernel_rfl) (fun _ _ _ h => h) (Or.inl ⟨by rfl, ?_⟩) (by assumption) ?_
      rotate_left
      · (intro wS hSw; go_simp; try with_reducible rfl)
      try simp only [Act.put, List.setIfInBounds_toArray, List.set_cons_zero, List.set_cons_succ]
      refine takeL 24 (v := ?_) rfl (by kernel_rfl) (by kernel_rfl) (by kernel_rfl) (fun _ _ _ h => h) (Or.inl ⟨by rfl, ?_⟩) (by assumption) ?_
      rotate_left
      · (intro wS hSw; go_simp; try with_reducible rfl)
      try simp only [Act.put, List.setIfInBounds_toArray, List.set_cons_zero, List.set_cons_succ]
      refine wpAnyH_done (by kernel_rfl) (NoPanic.normal ?_) _
      have hkk := Lib.hid (hkr.out.trans hHeld.k)
      clear hHeld
      go_wp2
      exact ⟨⟨k + 1, by omega, by go_num, hkk⟩, by simp [intOf]; omega⟩
    · obtain rfl : k = 12 := by omega
      obtain ⟨z, hz⟩ : ∃ z, namedB head a.data.toList = z := ⟨_, rfl⟩
      have hz' := Lib.hid hz; clear hz
      have hzz : (z == z) = true := by simp
      cases hf : findD head a.data.toList with
      | none =>
        have hf' := Lib.hid hf; clear hf
        go_wp2_with fail
        refine (find_no head a _ hf').mono ?_
        rintro e w5 ⟨rfl, k5⟩
        have k5' := Lib.hid k5; clear k5
        go_wp2_with ((with_reducible refine at_store 10 ?_); refine wpList_store_new rfl 39 (.tmp 10) (.tmp 70) rfl _ #[.int .i64 0, .string ⟨#[]⟩, .int .i64 0, .int .i64 0, .int .i64 0, .slice none 0 0, .string ⟨#[]⟩, .int .i64 0] rfl rfl rowInfo rfl (row_one _ _ _ _ _ _ _ _ _ _) ?_)
        refine (rFind_no head a _ hf').mono ?_
        rintro e w6 ⟨rfl, k6⟩
        have k6' := Lib.hid k6; clear k6
        have hr82 : Hid (∀ o, (w6.alloc o).rangeAt w5.heap.size 0 [.int .i64 0, .string ⟨#[]⟩, .int .i64 0, .int .i64 0, .int .i64 0, .slice none 0 0, .string ⟨#[]⟩, .int .i64 0]) := Lib.hid (fun o => new_range w5 _ _ 39 (k6'.out.alloc o))
        have hr83 : Hid ((w6.alloc (.cells #[.int .i64 0, .string ⟨#[]⟩, .int .i64 0, .int .i64 0, .int .i64 0, .slice none 0 0, .string ⟨#[]⟩, .int .i64 0] 40)).rangeAt w6.heap.size 0 [.int .i64 0, .string ⟨#[]⟩, .int .i64 0, .int .i64 0, .int .i64 0, .slice none 0 0, .string ⟨#[]⟩, .int .i64 0]) := Lib.hid (new_range w6 _ _ 40 (Keeps.refl _ _))
        go_wp2_with (first | ((with_reducible refine at_store 12 ?_); refine wpList_store_new rfl 40 (.tmp 12) (.tmp 76) rfl _ #[.int .i64 0, .string ⟨#[]⟩, .int .i64 0, .int .i64 0, .int .i64 0, .slice none 0 0, .string ⟨#[]⟩, .int .i64 0] rfl rfl rowInfo4 rfl (row_one _ _ _ _ _ _ _ _ _ _) ?_) | ((with_reducible refine at_slot 82 ?_); refine wpList_load_mid_g (by rfl) 39 (.tmp 10) rfl w5.heap.size 0 rfl _ _ (hr82.out _) Tryd.underlying39 rfl rowInfo ?_) | ((with_reducible refine at_slot 83 ?_); refine wpList_load_mid_g (by rfl) 40 (.tmp 12) rfl w6.heap.size 0 rfl _ _ hr83.out Tryd.underlying40 rfl rowInfo4 ?_))
        refine (alike_same 0 0 0 0 0 ⟨#[]⟩ ⟨#[]⟩ none none 0 0 [] _ (by simp) (Lib.hid ⟨none, 0, rfl, by simp⟩) (Lib.hid ⟨none, 0, rfl, by simp⟩)).mono ?_
        rintro e w7 ⟨rfl, k7⟩
        have k7' := Lib.hid k7; clear k7
        go_wp2_with fail
        refine (named_any head a z _ (by omega) hz').mono ?_
        rintro e w8 ⟨rfl, m8, rfl⟩
        go_wp2_with fail
        refine (rNamed_any head a z _ (by omega) hz').mono ?_
        rintro e w9 ⟨rfl, k9⟩
        have k9' := Lib.hid k9; clear k9
        go_wp2
        go_ret
        exact lawEnd.mk ((((((((k3'.out.trans hkr.out).trans k5'.out).alloc _).trans k6'.out).alloc _).trans k7'.out).drewN m8).trans k9'.out)
      | some r =>
        have hf' := Lib.hid hf
        have hcl : r.cs.length ≤ 1000 := by
          have : ∀ q ∈ tableD, q.cs.length ≤ 1000 := by decide
          exact this r (List.mem_of_find?_eq_some hf)
        obtain ⟨N, hN⟩ : ∃ N : ByteArray, N = ⟨r.name.toArray⟩ := ⟨_, rfl⟩
        obtain ⟨F, hF⟩ : ∃ F : ByteArray, F = ⟨r.df.toArray⟩ := ⟨_, rfl⟩
        have hN' := Lib.hid hN; have hF' := Lib.hid hF
        clear hf hN hF
        go_wp2_with fail
        refine (find_yes head a r N F _ hf' hN' hF').mono ?_
        rintro e w5 ⟨p1, c1, rfl, s5, k5⟩
        have k5' := Lib.hid k5; have s5' := Lib.hid s5; clear k5 s5
        go_wp2_with ((with_reducible refine at_store 10 ?_); refine wpList_store_new rfl 39 (.tmp 10) (.tmp 70) rfl _ #[.int .i64 r.head, .string N, .int .i64 r.kind, .int .i64 r.lo, .int .i64 r.hi, .slice p1 r.cs.length c1, .string F, .int .i64 r.cl] rfl rfl rowInfo rfl (row_one _ _ _ _ _ _ _ _ _ _) ?_)
        refine (rFind_yes head a r N F _ hf' hN' hF').mono ?_
        rintro e w6 ⟨p2, c2, rfl, s6, k6⟩
        have k6' := Lib.hid k6; have s6' := Lib.hid s6; clear k6 s6
        have hr82 : Hid (∀ o, (w6.alloc o).rangeAt w5.heap.size 0 [.int .i64 r.head, .string N, .int .i64 r.kind, .int .i64 r.lo, .int .i64 r.hi, .slice p1 r.cs.length c1, .string F, .int .i64 r.cl]) := Lib.hid (fun o => new_range w5 _ _ 39 (k6'.out.alloc o))
        have hr83 : Hid ((w6.alloc (.cells #[.int .i64 r.head, .string N, .int .i64 r.kind, .int .i64 r.lo, .int .i64 r.hi, .slice p2 r.cs.length c2, .string F, .int .i64 r.cl] 40)).rangeAt w6.heap.size 0 [.int .i64 r.head, .string N, .int .i64 r.kind, .int .i64 r.lo, .int .i64 r.hi, .slice p2 r.cs.length c2, .string F, .int .i64 r.cl]) := Lib.hid (new_range w6 _ _ 40 (Keeps.refl _ _))
        go_wp2_with (first | ((with_reducible refine at_store 12 ?_); refine wpList_store_new rfl 40 (.tmp 12) (.tmp 76) rfl _ #[.int .i64 r.head, .string N, .int .i64 r.kind, .int .i64 r.lo, .int .i64 r.hi, .slice p2 r.cs.length c2, .string F, .int .i64 r.cl] rfl rfl rowInfo4 rfl (row_one _ _ _ _ _ _ _ _ _ _) ?_) | ((with_reducible refine at_slot 82 ?_); refine wpList_load_mid_g (by rfl) 39 (.tmp 10) rfl w5.heap.size 0 rfl _ _ (hr82.out _) Tryd.underlying39 rfl rowInfo ?_) | ((with_reducible refine at_slot 83 ?_); refine wpList_load_mid_g (by rfl) 40 (.tmp 12) rfl w6.heap.size 0 rfl _ _ hr83.out Tryd.underlying40 rfl rowInfo4 ?_))
        refine (alike_same r.head r.kind r.lo r.hi r.cl N F p1 p2 c1 c2 r.cs _ hcl (Lib.hid ((s5'.out.keep (((Keeps.refl (fun _ => False) _).alloc _).trans k6'.out) (fun _ _ _ f => f)).keep ((Keeps.refl (fun _ => False) _).alloc _) (fun _ _ _ f => f))) (Lib.hid (s6'.out.keep ((Keeps.refl (fun _ => False) _).alloc _) (fun _ _ _ f => f)))).mono ?_
        rintro e w7 ⟨rfl, k7⟩
        have k7' := Lib.hid k7; clear k7
        go_wp2_with fail
        refine (named_any head a z _ (by omega) hz').mono ?_
        rintro e w8 ⟨rfl, m8, rfl⟩
        go_wp2_with fail
        refine (rNamed_any head a z _ (by omega) hz').mono ?_
        rintro e w9 ⟨rfl, k9⟩
        have k9' := Lib.hid k9; clear k9
        go_wp2
        go_ret
        exact lawEnd.mk ((((((((k3'.out.trans hkr.out).trans k5'.out).alloc _).trans k6'.out).alloc _).trans k7'.out).drewN m8).trans k9'.out)
end Go.Proofs.YtdgacnkfljcbpaaDoor
