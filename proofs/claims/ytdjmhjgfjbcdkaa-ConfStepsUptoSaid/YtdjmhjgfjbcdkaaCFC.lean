/- The document's RightLine, walked. -/
import Derived.Test.YtdjmhjgfjbcdkaaCFB
namespace Go.Proofs.Ytdjmhjgfjbcdkaa
open Go.RowKit

theorem wpList_load_mid_g {P : Program} {ops : Array Oper} {rest : List Oper} {op : Oper} {a : Act} {w : World} {Q : Exit → Act → World → Prop} (hgd : Region.wanted op (yielded ops a.tmps) = true) (ty : TypeId) (x : Operand) (ho : op.op = .load ty x)
    (b o : Nat) (hx : a.eval x = .pointer (some ⟨b, o, none⟩)) (cs : List Value) (d : TypeDesc) (hc : w.rangeAt b o cs)
    (hu : P.underlying ty = some d) (hd : d.isRow = true) (hi : (P.info? ty).map (·.size) = some cs.length)
    (h : wpList P ops Q rest (a.put op.dst (.agg cs.toArray)) w) : wpList P ops Q (op :: rest) a w :=
  wpList_step fun K hK => by rw [if_pos hgd]; exact wp_load_mid ty x ho b o hx cs d hc hu hd hi (hK _ _ h)
theorem find_no (head : Int) (nm : ByteArray) (w : World) (h : Hid (findD head nm.data.toList = none)) :
    Calls Try.prog 38 #[.int .i64 head, .string nm] w fun e w' => e = .returned (.tuple #[.agg #[.int .i64 0, .string ⟨#[]⟩, .int .i64 0, .int .i64 0, .int .i64 0, .slice none 0 0, .string ⟨#[]⟩, .int .i64 0], .bool false]) ∧ Keeps (fun _ => False) w w' := find_any head nm none w h
theorem rFind_no (head : Int) (nm : ByteArray) (w : World) (h : Hid (findD head nm.data.toList = none)) :
    Calls Try.prog 39 #[.int .i64 head, .string nm] w fun e w' => e = .returned (.tuple #[.agg #[.int .i64 0, .string ⟨#[]⟩, .int .i64 0, .int .i64 0, .int .i64 0, .slice none 0 0, .string ⟨#[]⟩, .int .i64 0], .bool false]) ∧ Keeps (fun _ => False) w w' := rFind_any head nm none w h
theorem find_yes (head : Int) (nm : ByteArray) (r : RowD) (N F : ByteArray) (w : World) (h : Hid (findD head nm.data.toList = some r)) (hN : Hid (N = ⟨r.name.toArray⟩)) (hF : Hid (F = ⟨r.df.toArray⟩)) :
    Calls Try.prog 38 #[.int .i64 head, .string nm] w fun e w' => ∃ p cc, e = .returned (.tuple #[.agg #[.int .i64 r.head, .string N, .int .i64 r.kind, .int .i64 r.lo, .int .i64 r.hi, .slice p r.cs.length cc, .string F, .int .i64 r.cl], .bool true]) ∧ StrsAt w' (.slice p r.cs.length cc) r.cs ∧ Keeps (fun _ => False) w w' := by
  rw [hN.out, hF.out]; exact find_any head nm (some r) w h
theorem rFind_yes (head : Int) (nm : ByteArray) (r : RowD) (N F : ByteArray) (w : World) (h : Hid (findD head nm.data.toList = some r)) (hN : Hid (N = ⟨r.name.toArray⟩)) (hF : Hid (F = ⟨r.df.toArray⟩)) :
    Calls Try.prog 39 #[.int .i64 head, .string nm] w fun e w' => ∃ p cc, e = .returned (.tuple #[.agg #[.int .i64 r.head, .string N, .int .i64 r.kind, .int .i64 r.lo, .int .i64 r.hi, .slice p r.cs.length cc, .string F, .int .i64 r.cl], .bool true]) ∧ StrsAt w' (.slice p r.cs.length cc) r.cs ∧ Keeps (fun _ => False) w w' := by
  rw [hN.out, hF.out]; exact rFind_any head nm (some r) w h
theorem new_range (w w' : World) (L : List Value) (t : TypeId) (k : Keeps (fun _ => False) (w.alloc (.cells L.toArray t)) w') : w'.rangeAt w.heap.size 0 L := by
  refine k.rangeAt (fun j u hu => ?_) id
  have := cells_new (w := w) (n := w.heap.size) rfl L t j u hu
  rw [Addr.add_mid] at this; exact this


/-- a boxed line -/
structure BoxAt (B : Nat) (h : Int) (N F V : ByteArray) (W : World) : Prop where
  b0 : W.cell? ⟨B, 0, none⟩ = some (.int .i64 h)
  b1 : W.cell? ⟨B, 1, none⟩ = some (.string N)
  b2 : W.cell? ⟨B, 2, none⟩ = some (.string F)
  b3 : W.cell? ⟨B, 3, none⟩ = some (.string V)
theorem BoxAt.keep {B : Nat} {h : Int} {N F V : ByteArray} {W W' : World} (s : BoxAt B h N F V W) (k : Keeps (fun _ => False) W W') : BoxAt B h N F V W' :=
  ⟨(k.cell (p := ⟨B, 0, none⟩) (World.block_lt_of_cell? W _ s.b0) id).trans s.b0, (k.cell (p := ⟨B, 1, none⟩) (World.block_lt_of_cell? W _ s.b1) id).trans s.b1, (k.cell (p := ⟨B, 2, none⟩) (World.block_lt_of_cell? W _ s.b2) id).trans s.b2, (k.cell (p := ⟨B, 3, none⟩) (World.block_lt_of_cell? W _ s.b3) id).trans s.b3⟩
theorem boxAt_new (w : World) (h : Int) (N F V : ByteArray) (t : TypeId) : BoxAt w.heap.size h N F V (w.alloc (.cells #[.int .i64 h, .string N, .string F, .string V] t)) :=
  ⟨by simp [go_sem], by simp [go_sem], by simp [go_sem], by simp [go_sem]⟩

set_option maxRecDepth 100000 in
set_option maxHeartbeats 4000000 in
theorem rRightLine_any (h : Int) (N F V : ByteArray) (z : Bool) (w : World) (hn : N.size ≤ 8796093022000) (hv : V.size ≤ 8796093022000)
    (hz : Hid (lineB ⟨h, N.data.toList, F.data.toList, V.data.toList⟩ = z)) :
    Calls Try.prog 33 #[.agg #[.int .i64 h, .string N, .string F, .string V]] w (NewRes (.bool z) w) := by
  have hzz := hz.out
  unfold lineB at hzz
  simp only at hzz
  cases hf : findD h F.data.toList with
  | none =>
    rw [hf] at hzz
    have hz2 : false = z := hzz
    subst hz2
    have hf' := Lib.hid hf; clear hf hzz
    go_enter Try.func33, Try.ntmps33
    go_wp2_with fail
    refine (rFind_no h F _ hf').mono ?_
    rintro e w5 ⟨rfl, k5⟩
    have k5' := Lib.hid k5; clear k5
    go_wp2_with ((with_reducible refine at_store 3 ?_); refine wpList_store_new rfl 78 (.tmp 3) (.tmp 11) rfl _ #[.int .i64 0, .string ⟨#[]⟩, .int .i64 0, .int .i64 0, .int .i64 0, .slice none 0 0, .string ⟨#[]⟩, .int .i64 0] rfl rfl rowInfo4 rfl (row_one _ _ _ _ _ _ _ _ _ _) ?_)
    go_ret
    exact ⟨rfl, (((Keeps.refl _ _).alloc _).trans k5'.out).alloc _⟩
  | some r =>
    rw [hf] at hzz
    simp only at hzz
    have hf' := Lib.hid hf
    have hcl : r.cs.length ≤ 1000 := by
      have : ∀ q ∈ tableD, q.cs.length ≤ 1000 := by decide
      exact this r (List.mem_of_find?_eq_some hf)
    obtain ⟨Nm, hNm⟩ : ∃ Nm : ByteArray, Nm = ⟨r.name.toArray⟩ := ⟨_, rfl⟩
    obtain ⟨Df, hDf⟩ : ∃ Df : ByteArray, Df = ⟨r.df.toArray⟩ := ⟨_, rfl⟩
    have hNm' := Lib.hid hNm; have hDf' := Lib.hid hDf
    clear hf hNm hDf
    obtain ⟨zn, hzn⟩ : ∃ zn, namedB h N.data.toList = zn := ⟨_, rfl⟩
    obtain ⟨zr, hzr⟩ : ∃ zr, rightB r.kind r.lo r.hi r.cs V.data.toList = zr := ⟨_, rfl⟩
    rw [hzn, hzr] at hzz
    have hzn' := Lib.hid hzn; have hzr' := Lib.hid hzr
    clear hzn hzr
    have hbx0 := Lib.hid (boxAt_new w h N F V 28)
    cases zn with
    | true =>
      have hz2 : zr = z := hzz
      clear hzz
      subst hz2
      go_enter Try.func33, Try.ntmps33
      go_wp2_with fail
      refine (rFind_yes h F r Nm Df _ hf' hNm' hDf').mono ?_
      rintro e w5 ⟨p, cc, rfl, s5, k5⟩
      have k5' := Lib.hid k5; have s5' := Lib.hid s5
      have hbx5 := Lib.hid (hbx0.out.keep k5)
      clear k5 s5
      obtain ⟨b0, b1, b2, b3⟩ := hbx5.out.keep ((Keeps.refl (fun _ => False) w5).alloc (.cells #[.int .i64 r.head, .string Nm, .int .i64 r.kind, .int .i64 r.lo, .int .i64 r.hi, .slice p r.cs.length cc, .string Df, .int .i64 r.cl] 78))
      go_wp2_with ((with_reducible refine at_store 3 ?_); refine wpList_store_new rfl 78 (.tmp 3) (.tmp 11) rfl _ #[.int .i64 r.head, .string Nm, .int .i64 r.kind, .int .i64 r.lo, .int .i64 r.hi, .slice p r.cs.length cc, .string Df, .int .i64 r.cl] rfl rfl rowInfo4 rfl (row_one _ _ _ _ _ _ _ _ _ _) ?_)
      refine (rNamed_any h N true _ hn hzn').mono ?_
      rintro e w6 ⟨rfl, k6⟩
      have hr22 := Lib.hid (new_range w5 _ _ 78 k6)
      have k6' := Lib.hid k6
      have hbx6 := (hbx5.out.keep ((Keeps.refl (fun _ => False) w5).alloc _)).keep k6
      clear k6 b0 b1 b2 b3
      have b3 := hbx6.b3
      clear hbx6
      go_wp2_with ((with_reducible refine at_slot 22 ?_); refine wpList_load_mid_g (by rfl) 78 (.tmp 3) rfl w5.heap.size 0 rfl _ _ hr22.out Try.underlying78 rfl rowInfo4 ?_)
      refine (rRight_any r.head Nm Df r.kind r.lo r.hi r.cl p cc r.cs V zr _ hv hcl (Lib.hid (s5'.out.keep (((Keeps.refl (fun _ => False) _).alloc _).trans k6'.out) (fun _ _ _ f => f))) hzr').mono ?_
      rintro e w7 ⟨rfl, k7⟩
      have k7' := Lib.hid k7; clear k7
      go_wp2
      go_ret
      exact ⟨rfl, (((((Keeps.refl _ _).alloc _).trans k5'.out).alloc _).trans k6'.out).trans k7'.out⟩
    | false =>
      have hz2 : false = z := hzz
      clear hzz
      subst hz2
      go_enter Try.func33, Try.ntmps33
      go_wp2_with fail
      refine (rFind_yes h F r Nm Df _ hf' hNm' hDf').mono ?_
      rintro e w5 ⟨p, cc, rfl, s5, k5⟩
      have k5' := Lib.hid k5
      have hbx5 := Lib.hid (hbx0.out.keep k5)
      clear k5 s5
      obtain ⟨b0, b1, b2, b3⟩ := hbx5.out.keep ((Keeps.refl (fun _ => False) w5).alloc (.cells #[.int .i64 r.head, .string Nm, .int .i64 r.kind, .int .i64 r.lo, .int .i64 r.hi, .slice p r.cs.length cc, .string Df, .int .i64 r.cl] 78))
      go_wp2_with ((with_reducible refine at_store 3 ?_); refine wpList_store_new rfl 78 (.tmp 3) (.tmp 11) rfl _ #[.int .i64 r.head, .string Nm, .int .i64 r.kind, .int .i64 r.lo, .int .i64 r.hi, .slice p r.cs.length cc, .string Df, .int .i64 r.cl] rfl rfl rowInfo4 rfl (row_one _ _ _ _ _ _ _ _ _ _) ?_)
      refine (rNamed_any h N false _ hn hzn').mono ?_
      rintro e w6 ⟨rfl, k6⟩
      have k6' := Lib.hid k6; clear k6 b0 b1 b2 b3
      go_wp2
      go_ret
      exact ⟨rfl, ((((Keeps.refl _ _).alloc _).trans k5'.out).alloc _).trans k6'.out⟩
end Go.Proofs.Ytdjmhjgfjbcdkaa
