/- sameName and Value, walked. -/
import Derived.Test.YtmclnamgihphcaaGreatMM12
import Derived.Test.YtmclnamgihphcaaGreatMM16
set_option linter.unusedVariables false
set_option linter.unusedSimpArgs false
set_option linter.unusedVariables false
set_option linter.unusedSimpArgs false
namespace Go.Proofs.YtmclnamgihphcaaGreat
open Go.RowKit

set_option maxRecDepth 100000 in
theorem sameName_any (h1 h2 : Int) (n1 l1 v1 n2 l2 v2 : ByteArray) (r : Bool) (w : World) (hr : Hid ((decide (h1 = h2) && decide (n1.data.toList = n2.data.toList)) = r)) :
    Calls Tryz.prog 56 #[.agg #[.int .i64 h1, .string n1, .string l1, .string v1], .agg #[.int .i64 h2, .string n2, .string l2, .string v2]] w (NewRes (.bool r) w) := by
  have hq := hr.out
  by_cases hh : h1 = h2
  · have e1 : (h1 == h2) = true := by simpa using hh
    by_cases hn : n1.data.toList = n2.data.toList
    · have e2 : (n1.toList == n2.toList) = true := by rw [Lib.toList_data, Lib.toList_data, hn]; simp
      obtain rfl : true = r := by rw [← hq]; simp [hh, hn]
      clear hq hr hh hn
      go_enter Tryz.func56, Tryz.ntmps56
      go_wp2
      go_ret
      exact ⟨rfl, ((Keeps.refl _ _).alloc _).alloc _⟩
    · have e2 : (n1.toList == n2.toList) = false := by rw [Lib.toList_data, Lib.toList_data]; simpa using hn
      obtain rfl : false = r := by rw [← hq]; simp [hn]
      clear hq hr hh hn
      go_enter Tryz.func56, Tryz.ntmps56
      go_wp2
      go_ret
      exact ⟨rfl, ((Keeps.refl _ _).alloc _).alloc _⟩
  · have e1 : (h1 == h2) = false := by simpa using hh
    obtain rfl : false = r := by rw [← hq]; simp [hh]
    clear hq hr hh
    go_enter Tryz.func56, Tryz.ntmps56
    go_wp2
    go_ret
    exact ⟨rfl, ((Keeps.refl _ _).alloc _).alloc _⟩

set_option maxRecDepth 100000 in
set_option maxHeartbeats 4000000 in
/-- a leaf that is set -/
theorem value_there (v : Value) (ls : List LineD) (q : LineD) (h : Int) (N F V : ByteArray) (w : World) (hv : Hid (RowsAt 4 lineVals w v ls)) (hl : ls.length ≤ 64) (hlt : Hid (LinesLt ls 9223372036854775807)) (hr : Hid (rightC ls = true))
    (hth : Hid (thereB ⟨h, N.data.toList, F.data.toList, []⟩ ls = true)) (hq : Hid (ls[posL ⟨h, N.data.toList, F.data.toList, []⟩ ls]? = some q)) (hV : Hid (V = ⟨q.value.toArray⟩)) :
    Calls Tryz.prog 59 #[v, .int .i64 h, .string N, .string F] w (NewRes (.string V) w) := by
  obtain ⟨p, c, rfl⟩ := hv.out.slice
  have hLn := Lib.hid hv.out.lines
  obtain ⟨at', hat⟩ : ∃ k, posL ⟨h, N.data.toList, F.data.toList, []⟩ ls = k := ⟨_, rfl⟩
  have hat' := Lib.hid hat
  have hq2 := hq.out
  rw [hat] at hq2
  have hal : at' < ls.length := (List.getElem?_eq_some_iff.1 hq2).1
  obtain ⟨g, o, rfl, hrows⟩ := hv.out.open (by omega)
  have hcell : w.cell? ⟨g, o + at' * 4 + 3, none⟩ = some (.string V) := by
    have := hrows at' q hq2 3 (strv q.value) rfl
    rw [hV.out]; exact this
  have hcell' := Lib.hid hcell
  have m1 : (0 : Int) ≤ (at' : Int) := by omega
  have m2 : (at' : Int) < (ls.length : Int) := by omega
  clear hq2 hrows hcell hat hq hv
  go_enter Tryz.func59, Tryz.ntmps59
  go_wp2_with fail
  refine (right_c _ ls true _ hLn (by omega) hlt hr).mono ?_
  rintro e w2 ⟨rfl, k2⟩
  have k2' := Lib.hid k2; clear k2
  go_wp2_with fail
  refine (find_c _ ls h N F ⟨#[]⟩ at' true _ (Lib.hid (hLn.out.keep k2'.out (fun _ _ _ f => f))) (by omega) hat' hth).mono ?_
  rintro e w3 ⟨rfl, k3⟩
  have k3' := Lib.hid (k2'.out.trans k3)
  have hc3 : w3.cell? ⟨g, o + at' * 4 + 3, none⟩ = some (.string V) := by rw [k3'.out.cell (p := ⟨g, o + at' * 4 + 3, none⟩) (World.block_lt_of_cell? w _ hcell'.out) id]; exact hcell'.out
  clear k3 k2' hLn
  go_wp2
  go_ret
  exact ⟨rfl, k3'.out⟩
set_option maxRecDepth 100000 in
set_option maxHeartbeats 4000000 in
/-- a leaf that isn't set, and has a default -/
theorem value_default (v : Value) (ls : List LineD) (r : RowD) (h : Int) (N F V : ByteArray) (w : World) (hv : Hid (RowsAt 4 lineVals w v ls)) (hl : ls.length ≤ 64) (hlt : Hid (LinesLt ls 9223372036854775807)) (hr : Hid (rightC ls = true))
    (hth : Hid (thereB ⟨h, N.data.toList, F.data.toList, []⟩ ls = false)) (hf : Hid (findD h F.data.toList = some r)) (hV : Hid (V = ⟨r.df.toArray⟩)) :
    Calls Tryz.prog 59 #[v, .int .i64 h, .string N, .string F] w (NewRes (.string V) w) := by
  obtain ⟨p, c, rfl⟩ := hv.out.slice
  have hLn := Lib.hid hv.out.lines
  obtain ⟨at', hat⟩ : ∃ k, posL ⟨h, N.data.toList, F.data.toList, []⟩ ls = k := ⟨_, rfl⟩
  have hat' := Lib.hid hat
  obtain ⟨Nm, hNm⟩ : ∃ Nm : ByteArray, Nm = ⟨r.name.toArray⟩ := ⟨_, rfl⟩
  have hNm' := Lib.hid hNm
  clear hat hNm hv
  go_enter Tryz.func59, Tryz.ntmps59
  go_wp2_with fail
  refine (right_c _ ls true _ hLn (by omega) hlt hr).mono ?_
  rintro e w2 ⟨rfl, k2⟩
  have k2' := Lib.hid k2; clear k2
  go_wp2_with fail
  refine (find_c _ ls h N F ⟨#[]⟩ at' false _ (Lib.hid (hLn.out.keep k2'.out (fun _ _ _ f => f))) (by omega) hat' hth).mono ?_
  rintro e w3 ⟨rfl, k3⟩
  have k3' := Lib.hid (k2'.out.trans k3)
  clear k3 k2' hLn
  go_wp2_with fail
  refine (find_yes h F r Nm V _ hf hNm' hV).mono ?_
  rintro e w5 ⟨p5, cc, rfl, s5, k5⟩
  have k5' := Lib.hid (k3'.out.trans k5)
  clear s5 k5 k3'
  have c6 := (show (w5.alloc (.cells #[.int .i64 r.head, .string Nm, .int .i64 r.kind, .int .i64 r.lo, .int .i64 r.hi, .slice p5 r.cs.length cc, .string V, .int .i64 r.cl] 139)).cell? ⟨w5.heap.size, 6, none⟩ = some (.string V) by simp [go_sem])
  go_wp2_with ((with_reducible refine at_store 11 ?_); refine wpList_store_new rfl 139 (.tmp 11) (.tmp 35) rfl _ #[.int .i64 r.head, .string Nm, .int .i64 r.kind, .int .i64 r.lo, .int .i64 r.hi, .slice p5 r.cs.length cc, .string V, .int .i64 r.cl] rfl rfl rowInfo rfl (row_one _ _ _ _ _ _ _ _ _ _) ?_)
  go_ret
  exact ⟨rfl, k5'.out.alloc _⟩
end Go.Proofs.YtmclnamgihphcaaGreat
/- conf.Names, walked (gen_cfk.py). -/
set_option linter.unusedVariables false
set_option linter.unusedSimpArgs false
namespace Go.Proofs.YtmclnamgihphcaaGreat
open Go.RowKit

def newName (h : Int) (p : Option LineD) (q : LineD) : Bool := decide (q.head = h) && (match p with | none => true | some p => !(decide (p.head = q.head) && decide (p.name = q.name)))
theorem namesFrom_snoc (h : Int) (q : LineD) : ∀ (ls : List LineD) (p : Option LineD), namesFrom h p (ls ++ [q]) = namesFrom h p ls ++ (if newName h (match ls.getLast? with | some r => some r | none => p) q = true then [q.name] else []) := by
  intro ls
  induction ls with
  | nil =>
    intro p
    simp only [List.nil_append, namesFrom, List.append_nil, List.getLast?_nil]
    congr 1
    unfold newName
    cases p <;> simp
  | cons r ls ih =>
    intro p
    simp only [List.cons_append, namesFrom]
    rw [ih, List.append_assoc]
    congr 3
    cases ls with
    | nil => simp
    | cons s ls =>
      rw [List.getLast?_cons_cons]
      cases hgl : (s :: ls).getLast? with
      | none => simp at hgl
      | some r => rfl
def prevOf (ls : List LineD) (k : Nat) : Option LineD := match k with | 0 => none | j + 1 => ls[j]?
theorem names_step {h : Int} {ls : List LineD} {k : Nat} {q : LineD} (hq : ls[k]? = some q) : namesFrom h none (ls.take (k + 1)) = namesFrom h none (ls.take k) ++ (if newName h (prevOf ls k) q = true then [q.name] else []) := by
  obtain ⟨hk, e⟩ := List.getElem?_eq_some_iff.1 hq
  rw [List.take_succ_eq_append_getElem hk, e, namesFrom_snoc]
  congr 3
  cases k with
  | zero => simp [prevOf]
  | succ j =>
    rw [List.getLast?_take]
    simp [prevOf, List.getElem?_eq_getElem (show j < ls.length by omega)]
def nv1 (l : List UInt8) : List Value := [strv l]
def NamesPost (xs : List (List UInt8)) (w : World) (e : Ending) (w' : World) : Prop :=
  ∃ p c, e = .returned (.slice p xs.length c) ∧ OwnR 9 1 nv1 w w' (.slice p xs.length c) xs ∧ Keeps (fun _ => False) w w'
theorem strAll : ∃ i, Tryz.prog.info? 9 = some i ∧ i.zero = some (.string ⟨#[]⟩) ∧ i.size = 1 ∧ i.bytes = 16 := by
  have h : (Tryz.prog.info? 9).map (fun i => (i.zero, i.size, i.bytes)) = some (some (.string ⟨#[]⟩), 1, 16) := by kernel_rfl
  obtain ⟨i, hi, e⟩ := Option.map_eq_some_iff.1 h
  injection e with e1 e; injection e with e2 e3
  exact ⟨i, hi, e1, e2, e3⟩
theorem ite_len (c : Prop) [Decidable c] (x : List UInt8) : (if c then [x] else ([] : List (List UInt8))).length ≤ 1 := by split <;> simp
theorem names_len_le (h : Int) : ∀ (ls : List LineD) (p : Option LineD), (namesFrom h p ls).length ≤ ls.length := by
  intro ls
  induction ls with
  | nil => intro p; simp [namesFrom]
  | cons r ls ih =>
    intro p
    simp only [namesFrom, List.length_append, List.length_cons]
    exact Nat.le_trans (Nat.add_le_add (ite_len _ _) (ih _)) (by omega)

set_option maxRecDepth 100000 in
set_option maxHeartbeats 4000000 in
theorem names_any (v : Value) (ls : List LineD) (h : Int) (w : World) (hv : Hid (RowsAt 4 lineVals w v ls)) (hl : ls.length ≤ 64) (hlt : Hid (LinesLt ls 9223372036854775807)) (hr : Hid (rightC ls = true)) (h0 : h ≠ 0) :
    Calls Tryz.prog 38 #[v, .int .i64 h] w (NamesPost (namesFrom h none ls) w) := by
  obtain ⟨p, c, rfl⟩ := hv.out.slice
  obtain ⟨i0, hi0, hi1, hi2, hi3⟩ := strAll
  have hLn := Lib.hid hv.out.lines
  have e0 : (h == 0) = false := by simpa using h0
  clear h0
  go_enter Tryz.func38, Tryz.ntmps38
  go_wp2_with fail
  refine (right_c _ ls true _ hLn (by omega) hlt hr).mono ?_
  rintro e w2 ⟨rfl, k2⟩
  have k2' := Lib.hid k2
  have hv2 := Lib.hid (hv.out.keep k2)
  clear k2 hLn hr
  go_wp2_with fail
  go_loopw [17, 5] (fun iv nv wr => ∃ (k : Nat) (q : Option Addr) (d : Nat), k ≤ ls.length ∧ iv = .int .i64 k ∧ nv = .slice q (namesFrom h none (ls.take k)).length d ∧ Hid (OwnR 9 1 nv1 w2 wr nv (namesFrom h none (ls.take k))) ∧ Hid (Keeps (fun _ => False) w2 wr)) (fun iv _ _ => ls.length - (intOf iv).toNat)
  case atStart => exact ⟨0, none, 0, by omega, rfl, rfl, Lib.hid (OwnR.nil _ _ (Nat.le_refl _)), Lib.hid (Keeps.refl _ _)⟩
  case round =>
    obtain ⟨k, qa, d, hk, rfl, rfl, hO, hkr⟩ := hrel
    by_cases hlk : k < ls.length
    · obtain ⟨g, o, rfl, hrows⟩ := hv2.out.open (by omega)
      obtain ⟨q, hq⟩ : ∃ q, ls[k]? = some q := ⟨_, List.getElem?_eq_getElem hlk⟩
      obtain ⟨N, hN⟩ : ∃ N : ByteArray, N = ⟨q.name.toArray⟩ := ⟨_, rfl⟩
      obtain ⟨F, hF⟩ : ∃ N : ByteArray, N = ⟨q.leaf.toArray⟩ := ⟨_, rfl⟩
      obtain ⟨V, hV⟩ : ∃ N : ByteArray, N = ⟨q.value.toArray⟩ := ⟨_, rfl⟩
      have hrow : Hid (wr.rangeAt g (o + k * 4) [.int .i64 q.head, .string N, .string F, .string V]) := Lib.hid (by rw [hN, hF, hV]; exact hkr.out.rangeAt (hrows k q hq) id)
      have hNl : Hid (N.data.toList = q.name) := Lib.hid (by rw [hN])
      have hstep := Lib.hid (names_step (h := h) hq)
      have hnl : Hid ((namesFrom h none (ls.take k)).length ≤ 64) := Lib.hid (by have := names_len_le h (ls.take k) none; rw [List.length_take] at this; omega)
      have hBx : Hid (BlkAt (wr.alloc (.cells #[.int .i64 q.head, .string N, .string F, .string V] 62)) wr.heap.size 62 [.int .i64 q.head, .string N, .string F, .string V]) := Lib.hid (BlkAt.new _ _ _)
      have hkx : Hid (Keeps (fun _ => False) w2 (wr.alloc (.cells #[.int .i64 q.head, .string N, .string F, .string V] 62))) := Lib.hid (hkr.out.alloc _)
      have hOx : Hid (OwnR 9 1 nv1 w2 (wr.alloc (.cells #[.int .i64 q.head, .string N, .string F, .string V] 62)) (.slice qa (namesFrom h none (ls.take k)).length d) (namesFrom h none (ls.take k))) := Lib.hid (hO.out.keep ((Keeps.refl (fun _ => False) _).alloc _) (fun _ _ f => f))
      have hrows' := Lib.hid hrows; have hN' := Lib.hid hN; have hq' := Lib.hid hq
      clear hrows hN hF hV hq hO
      go_upto_region 7 with (first | ((with_reducible refine at_slot 21 ?_); refine wpList_load_mid rfl 62 (.tmp 20) rfl g (o + k * 4) rfl [.int .i64 q.head, .string N, .string F, .string V] _ hrow.out Tryz.underlying62 rfl lineInfo ?_) | ((with_reducible refine at_store 7 ?_); refine wpList_store_new rfl 62 (.tmp 7) (.tmp 21) rfl _ #[.int .i64 q.head, .string N, .string F, .string V] rfl rfl lineInfo rfl (line_one _ _ _ _) ?_))
      generalize hgx : wr.heap.size = gx at hBx ⊢
      have hgx' := Lib.hid hgx
      generalize hWx : wr.alloc (.cells #[.int .i64 q.head, .string N, .string F, .string V] 62) = Wx at hBx hkx hOx ⊢
      have hWx' := Lib.hid hWx
      clear hgx hWx
      obtain ⟨zh, hzh⟩ : ∃ z, decide (q.head = h) = z := ⟨_, rfl⟩
      have hzh' := Lib.hid hzh
      cases zh with
      | false =>
        have e1 : (q.head == h) = false := by simpa using hzh
        clear hzh
        refine wp_region_noPanic ?_
        refine wp_region_held_drew (S := (fun W => Keeps (fun _ => False) Wx W)) (by kernel_rfl) (((Keeps.refl _ _).drew)) (fun hHeld => ?_)
        refine tk 0 rfl ?_
        refine tkL 1 rfl (yieldsIf_load_cell (by rfl) 3 (.tmp 22) rfl gx 0 rfl _ (fun _ s => (hBx.out.keep s id).cell 0 _ rfl) (fun w s => load_int w _ _ _ s)) ?_
        refine tk 2 rfl ?_
        refine tk 3 rfl ?_
        refine tk 4 rfl ?_
        refine tkS 5 rfl ?_
        refine tkS 6 rfl ?_
        refine tkS 7 rfl ?_
        refine tkS 8 rfl ?_
        refine tkS 9 rfl ?_
        refine tkS 10 rfl ?_
        refine tkS 11 rfl ?_
        refine tkS 12 rfl ?_
        refine tkS 13 rfl ?_
        refine tkS 14 rfl ?_
        refine tkS 15 rfl ?_
        refine tkS 16 rfl ?_
        refine tk 17 rfl ?_
        refine wpAnyH_done (by kernel_rfl) (NoPanic.normal ?_) _
        have hkk := Lib.hid (hkx.out.trans hHeld)
        have hOk := Lib.hid (hOx.out.keep hHeld (fun _ _ f => f))
        have hsame : Hid (namesFrom h none (ls.take (k + 1)) = namesFrom h none (ls.take (k))) := Lib.hid (by
          rw [hstep.out, if_neg, List.append_nil]
          unfold newName; rw [hzh'.out]; exact Bool.false_ne_true)
        clear hHeld
        go_wp2_with fail
        refine ⟨⟨k + 1, qa, d, by omega, by go_num, by rw [hsame.out], by rw [hsame.out]; exact hOk, hkk⟩, by simp [intOf]; omega⟩
      | true =>
        have e1 : (q.head == h) = true := by simpa using hzh
        clear hzh
        cases k with
        | zero =>
          refine wp_region_noPanic ?_
          refine wp_region_held_drew (S := (fun W => Keeps (fun _ => False) Wx W)) (by kernel_rfl) (((Keeps.refl _ _).drew)) (fun hHeld => ?_)
          refine tk 0 rfl ?_
          refine tkL 1 rfl (yieldsIf_load_cell (by rfl) 3 (.tmp 22) rfl gx 0 rfl _ (fun _ s => (hBx.out.keep s id).cell 0 _ rfl) (fun w s => load_int w _ _ _ s)) ?_
          refine tk 2 rfl ?_
          refine tk 3 rfl ?_
          refine tk 4 rfl ?_
          refine tk 5 rfl ?_
          refine tk 6 rfl ?_
          refine tk 7 rfl ?_
          refine tkS 8 rfl ?_
          refine tkS 9 rfl ?_
          refine tkS 10 rfl ?_
          refine tkS 11 rfl ?_
          refine tkS 12 rfl ?_
          refine tkS 13 rfl ?_
          refine tkS 14 rfl ?_
          refine tkS 15 rfl ?_
          refine tk 16 rfl ?_
          refine tk 17 rfl ?_
          refine wpAnyH_done (by kernel_rfl) (NoPanic.normal ?_) _
          have hkk := Lib.hid (hkx.out.trans hHeld)
          have hOk := Lib.hid (hOx.out.keep hHeld (fun _ _ f => f))
          have hBk := Lib.hid (hBx.out.keep hHeld id)
          have hsame : Hid (namesFrom h none (ls.take (0 + 1)) = namesFrom h none (ls.take (0)) ++ [N.data.toList]) := Lib.hid (by
            rw [hstep.out, if_pos, hNl.out]
            show newName h none q = true; unfold newName; rw [hzh'.out]; rfl)
          clear hHeld hOx hkx hBx
          have cN := hBk.out.cell 1 _ rfl
          go_wp2_with ((with_reducible refine at_slot 44 ?_); go_must (refine wpList_append_r rfl (.tmp 40) (.tmp 43) 38 9 rfl i0 _ 16 Tryz.underlying38 hi0 hi1 hi2 hi3 rfl (by decide) (by decide) (fun _ => rfl) w2 _ (namesFrom h none (ls.take (0))).length (namesFrom h none (ls.take (0))) rfl rfl (hOk.out.keep ((Keeps.refl (fun _ => False) _).alloc _) (fun _ _ f => f)) _ rfl N.data.toList (cells_new rfl [.string N] _) (fun u hu => (by simp [nv1] at hu; subst hu; rfl)) (by have := hnl.out; omega) ?_); intro q8 d8 w8 hO8 hg8)
          have hk8 := Lib.hid (OwnR.keeps (hOk.out.keep ((Keeps.refl (fun _ => False) _).alloc _) (fun _ _ f => f)) (hkk.out.alloc _) hg8.out)
          refine ⟨⟨0 + 1, q8, d8, by omega, by go_num, by rw [hsame.out]; simp, by rw [hsame.out]; exact hO8, hk8⟩, by simp [intOf]; omega⟩
        | succ j =>
          obtain ⟨b, hbq⟩ : ∃ b, ls[j]? = some b := ⟨_, List.getElem?_eq_getElem (by omega)⟩
          obtain ⟨Nb, hNb⟩ : ∃ N : ByteArray, N = ⟨b.name.toArray⟩ := ⟨_, rfl⟩
          obtain ⟨Fb, hFb⟩ : ∃ N : ByteArray, N = ⟨b.leaf.toArray⟩ := ⟨_, rfl⟩
          obtain ⟨Vb, hVb⟩ : ∃ N : ByteArray, N = ⟨b.value.toArray⟩ := ⟨_, rfl⟩
          have hprev : Hid (Wx.rangeAt g (o + j * 4) [.int .i64 b.head, .string Nb, .string Fb, .string Vb]) := Lib.hid (by rw [hNb, hFb, hVb]; exact hkx.out.rangeAt (hrows'.out j b hbq) id)
          obtain ⟨zs, hzs⟩ : ∃ z, (decide (b.head = q.head) && decide (Nb.data.toList = N.data.toList)) = z := ⟨_, rfl⟩
          have hzs' := Lib.hid hzs
          have hNbl : Hid (Nb.data.toList = b.name) := Lib.hid (by rw [hNb])
          have hbq' := Lib.hid hbq
          clear hNb hFb hVb hzs hbq
          have l1 : IntKind.i64.wrap (j : Int) = (j : Int) := IntWalk.i64_in _ (by omega)
          have l3 : (0 : Int) ≤ (j : Int) := by omega
          have l4 : (j : Int) < ls.length := by omega
          have l5 : (0 : Int) < (j : Int) + 1 := by omega
          have l6 : ((j : Int) + 1 == 0) = false := by simp; omega
          cases zs with
          | true =>
            refine wp_region_noPanic ?_
            refine wp_region_held_drew (S := (fun W => Keeps (fun _ => False) Wx W)) (by kernel_rfl) (((Keeps.refl _ _).drew)) (fun hHeld => ?_)
            refine tk 0 rfl ?_
            refine tkL 1 rfl (yieldsIf_load_cell (by rfl) 3 (.tmp 22) rfl gx 0 rfl _ (fun _ s => (hBx.out.keep s id).cell 0 _ rfl) (fun w s => load_int w _ _ _ s)) ?_
            refine tk 2 rfl ?_
            refine tk 3 rfl ?_
            refine tk 4 rfl ?_
            refine tk 5 rfl ?_
            refine tk 6 rfl ?_
            refine tk 7 rfl ?_
            refine tk 8 rfl ?_
            refine tk 9 rfl ?_
            refine tk 10 rfl ?_
            refine tk 11 rfl ?_
            refine tkL 12 rfl (yieldsIf_load_mid (by rfl) 62 (.tmp 33) rfl g (o + j * 4) rfl [.int .i64 b.head, .string Nb, .string Fb, .string Vb] _ (fun _ s => s.rangeAt hprev.out id) Tryz.underlying62 rfl lineInfo) ?_
            refine tkL 13 rfl (yieldsIf_load_mid (by rfl) 62 (.tmp 7) rfl gx 0 rfl [.int .i64 q.head, .string N, .string F, .string V] _ (fun _ s => (hBx.out.keep s id).range) Tryz.underlying62 rfl lineInfo) ?_
            refine stepL 14 rfl (by kernel_rfl) (fun K hK => ?_)
            go_simp
            (refine (sameName_any b.head q.head Nb Fb Vb N F V _ _ hzs').mono ?_; rintro e w5 ⟨rfl, k5⟩; have k5' := Lib.hid k5; clear k5)
            go_wp2_with fail
            refine hK.out _ _ ((hHeld.trans k5'.out)) (fun hHeld => ?_)
            clear hK K
            try simp only [Act.put, sA, sZ, sS]
            refine tk 15 rfl ?_
            refine tk 16 rfl ?_
            refine tk 17 rfl ?_
            refine wpAnyH_done (by kernel_rfl) (NoPanic.normal ?_) _
            have hkk := Lib.hid (hkx.out.trans hHeld)
            have hOk := Lib.hid (hOx.out.keep hHeld (fun _ _ f => f))
            have hsame : Hid (namesFrom h none (ls.take (j + 1 + 1)) = namesFrom h none (ls.take (j + 1))) := Lib.hid (by
              rw [hstep.out, if_neg, List.append_nil]
              show ¬ (newName h (ls[j]?) q = true); rw [hbq'.out]; have hz := hzs'.out; rw [hNl.out, hNbl.out] at hz; unfold newName; rw [hzh'.out]; simp only [hz]; decide)
            clear hHeld
            go_wp2_with fail
            refine ⟨⟨j + 1 + 1, qa, d, by omega, by go_num, by rw [hsame.out], by rw [hsame.out]; exact hOk, hkk⟩, by simp [intOf]; omega⟩
          | false =>
            refine wp_region_noPanic ?_
            refine wp_region_held_drew (S := (fun W => Keeps (fun _ => False) Wx W)) (by kernel_rfl) (((Keeps.refl _ _).drew)) (fun hHeld => ?_)
            refine tk 0 rfl ?_
            refine tkL 1 rfl (yieldsIf_load_cell (by rfl) 3 (.tmp 22) rfl gx 0 rfl _ (fun _ s => (hBx.out.keep s id).cell 0 _ rfl) (fun w s => load_int w _ _ _ s)) ?_
            refine tk 2 rfl ?_
            refine tk 3 rfl ?_
            refine tk 4 rfl ?_
            refine tk 5 rfl ?_
            refine tk 6 rfl ?_
            refine tk 7 rfl ?_
            refine tk 8 rfl ?_
            refine tk 9 rfl ?_
            refine tk 10 rfl ?_
            refine tk 11 rfl ?_
            refine tkL 12 rfl (yieldsIf_load_mid (by rfl) 62 (.tmp 33) rfl g (o + j * 4) rfl [.int .i64 b.head, .string Nb, .string Fb, .string Vb] _ (fun _ s => s.rangeAt hprev.out id) Tryz.underlying62 rfl lineInfo) ?_
            refine tkL 13 rfl (yieldsIf_load_mid (by rfl) 62 (.tmp 7) rfl gx 0 rfl [.int .i64 q.head, .string N, .string F, .string V] _ (fun _ s => (hBx.out.keep s id).range) Tryz.underlying62 rfl lineInfo) ?_
            refine stepL 14 rfl (by kernel_rfl) (fun K hK => ?_)
            go_simp
            (refine (sameName_any b.head q.head Nb Fb Vb N F V _ _ hzs').mono ?_; rintro e w5 ⟨rfl, k5⟩; have k5' := Lib.hid k5; clear k5)
            go_wp2_with fail
            refine hK.out _ _ ((hHeld.trans k5'.out)) (fun hHeld => ?_)
            clear hK K
            try simp only [Act.put, sA, sZ, sS]
            refine tk 15 rfl ?_
            refine tk 16 rfl ?_
            refine tk 17 rfl ?_
            refine wpAnyH_done (by kernel_rfl) (NoPanic.normal ?_) _
            have hkk := Lib.hid (hkx.out.trans hHeld)
            have hOk := Lib.hid (hOx.out.keep hHeld (fun _ _ f => f))
            have hBk := Lib.hid (hBx.out.keep hHeld id)
            have hsame : Hid (namesFrom h none (ls.take (j + 1 + 1)) = namesFrom h none (ls.take (j + 1)) ++ [N.data.toList]) := Lib.hid (by
              rw [hstep.out, if_pos, hNl.out]
              show newName h (ls[j]?) q = true; rw [hbq'.out]; have hz := hzs'.out; rw [hNl.out, hNbl.out] at hz; unfold newName; rw [hzh'.out]; simp only [hz]; decide)
            clear hHeld hOx hkx hBx
            have cN := hBk.out.cell 1 _ rfl
            go_wp2_with ((with_reducible refine at_slot 44 ?_); go_must (refine wpList_append_r rfl (.tmp 40) (.tmp 43) 38 9 rfl i0 _ 16 Tryz.underlying38 hi0 hi1 hi2 hi3 rfl (by decide) (by decide) (fun _ => rfl) w2 _ (namesFrom h none (ls.take (j + 1))).length (namesFrom h none (ls.take (j + 1))) rfl rfl (hOk.out.keep ((Keeps.refl (fun _ => False) _).alloc _) (fun _ _ f => f)) _ rfl N.data.toList (cells_new rfl [.string N] _) (fun u hu => (by simp [nv1] at hu; subst hu; rfl)) (by have := hnl.out; omega) ?_); intro q8 d8 w8 hO8 hg8)
            have hk8 := Lib.hid (OwnR.keeps (hOk.out.keep ((Keeps.refl (fun _ => False) _).alloc _) (fun _ _ f => f)) (hkk.out.alloc _) hg8.out)
            refine ⟨⟨j + 1 + 1, q8, d8, by omega, by go_num, by rw [hsame.out]; simp, by rw [hsame.out]; exact hO8, hk8⟩, by simp [intOf]; omega⟩
    · obtain rfl : k = ls.length := by omega
      rw [List.take_length] at hO
      have hO' := Lib.hid (hO.out.older (w0 := w) k2'.out.size)
      have hfin := Lib.hid (k2'.out.trans hkr.out)
      rw [List.take_length]
      clear hO hkr
      go_wp2_with fail
      go_ret
      exact ⟨qa, d, rfl, hO'.out, hfin.out⟩
end Go.Proofs.YtmclnamgihphcaaGreat
/- The code's Value is the document's. -/
set_option linter.unusedVariables false
set_option linter.unusedSimpArgs false
namespace Go.Proofs.YtmclnamgihphcaaGreat
open Go.RowKit

theorem posL_key {x q : LineD} (h : q.head = x.head ∧ q.name = x.name ∧ q.leaf = x.leaf) : ∀ ls : List LineD, posL q ls = posL x ls := by
  intro ls
  induction ls with
  | nil => rfl
  | cons a ls ih =>
    have e : lessB a q = lessB a x := by unfold lessB; rw [h.1, h.2.1, h.2.2]
    rw [posL, posL, e, ih]
theorem thereB_key {x q : LineD} (h : q.head = x.head ∧ q.name = x.name ∧ q.leaf = x.leaf) (ls : List LineD) : thereB q ls = thereB x ls := by
  unfold thereB
  rw [posL_key h]
  cases ls[posL x ls]? with
  | none => rfl
  | some a =>
    have e : lessB q a = lessB x a := by unfold lessB; rw [h.1, h.2.1, h.2.2]
    simp [e]
theorem keyB_iff {h : Int} {n l : List UInt8} {q : LineD} : keyB h n l q = true ↔ q.head = h ∧ q.name = n ∧ q.leaf = l := by
  unfold keyB
  simp [Bool.and_eq_true, and_assoc]
theorem find_there {h : Int} {n l : List UInt8} {ls : List LineD} (hr : rises ls) (ht : thereB ⟨h, n, l, []⟩ ls = true) : ∃ q, ls[posL ⟨h, n, l, []⟩ ls]? = some q ∧ ls.find? (keyB h n l) = some q := by
  have ht2 := ht
  unfold thereB at ht2
  cases hq : ls[posL ⟨h, n, l, []⟩ ls]? with
  | none => rw [hq] at ht2; cases ht2
  | some q =>
    rw [hq] at ht2
    have h1 : lessB ⟨h, n, l, []⟩ q = false := by simpa using ht2
    have h2 := posL_at hq
    have hk := key_eq h2 h1
    refine ⟨q, rfl, find_first hq (fun j r hj hjr => ?_) (keyB_iff.2 hk)⟩
    have h3 := posL_lt hj hjr
    rw [Bool.eq_false_iff]
    intro e
    exact less_key h3 (keyB_iff.1 e)
theorem find_not {h : Int} {n l : List UInt8} {ls : List LineD} (hr : rises ls) (ht : thereB ⟨h, n, l, []⟩ ls = false) : ls.find? (keyB h n l) = none := by
  rw [List.find?_eq_none]
  intro q hq e
  have hk := keyB_iff.1 e
  have h1 := there_at hr hq
  rw [thereB_key (x := ⟨h, n, l, []⟩) hk] at h1
  rw [ht] at h1; cases h1
set_option maxRecDepth 100000 in
set_option maxHeartbeats 4000000 in
/-- a leaf that isn't set, and is none -/
theorem value_none (v : Value) (ls : List LineD) (h : Int) (N F : ByteArray) (w : World) (hv : Hid (RowsAt 4 lineVals w v ls)) (hl : ls.length ≤ 64) (hlt : Hid (LinesLt ls 9223372036854775807)) (hr : Hid (rightC ls = true))
    (hth : Hid (thereB ⟨h, N.data.toList, F.data.toList, []⟩ ls = false)) (hf : Hid (findD h F.data.toList = none)) :
    Calls Tryz.prog 59 #[v, .int .i64 h, .string N, .string F] w (NewRes (.string ⟨#[]⟩) w) := by
  obtain ⟨p, c, rfl⟩ := hv.out.slice
  have hLn := Lib.hid hv.out.lines
  obtain ⟨at', hat⟩ : ∃ k, posL ⟨h, N.data.toList, F.data.toList, []⟩ ls = k := ⟨_, rfl⟩
  have hat' := Lib.hid hat
  clear hat hv
  go_enter Tryz.func59, Tryz.ntmps59
  go_wp2_with fail
  refine (right_c _ ls true _ hLn (by omega) hlt hr).mono ?_
  rintro e w2 ⟨rfl, k2⟩
  have k2' := Lib.hid k2; clear k2
  go_wp2_with fail
  refine (find_c _ ls h N F ⟨#[]⟩ at' false _ (Lib.hid (hLn.out.keep k2'.out (fun _ _ _ f => f))) (by omega) hat' hth).mono ?_
  rintro e w3 ⟨rfl, k3⟩
  have k3' := Lib.hid (k2'.out.trans k3)
  clear k3 k2' hLn
  go_wp2_with fail
  refine (find_no h F _ hf).mono ?_
  rintro e w5 ⟨rfl, k5⟩
  have k5' := Lib.hid (k3'.out.trans k5)
  clear k5 k3'
  have c6 := (show (w5.alloc (.cells #[.int .i64 0, .string ⟨#[]⟩, .int .i64 0, .int .i64 0, .int .i64 0, .slice none 0 0, .string ⟨#[]⟩, .int .i64 0] 139)).cell? ⟨w5.heap.size, 6, none⟩ = some (.string ⟨#[]⟩) by simp [go_sem])
  go_wp2_with ((with_reducible refine at_store 11 ?_); refine wpList_store_new rfl 139 (.tmp 11) (.tmp 35) rfl _ #[.int .i64 0, .string ⟨#[]⟩, .int .i64 0, .int .i64 0, .int .i64 0, .slice none 0 0, .string ⟨#[]⟩, .int .i64 0] rfl rfl rowInfo rfl (row_one _ _ _ _ _ _ _ _ _ _) ?_)
  go_ret
  exact ⟨rfl, k5'.out.alloc _⟩
/-- Value of a right configuration, whatever is asked -/
theorem value_any (v : Value) (ls : List LineD) (h : Int) (N F V : ByteArray) (w : World) (hv : Hid (RowsAt 4 lineVals w v ls)) (hr : Hid (rightC ls = true)) (hV : Hid (V = ⟨(valueR ls h N.data.toList F.data.toList).toArray⟩)) :
    Calls Tryz.prog 59 #[v, .int .i64 h, .string N, .string F] w (NewRes (.string V) w) := by
  have hl := right_len hr.out
  have hlt := Lib.hid (right_lt hr.out 9223372036854775807 (by omega))
  have hrs := right_rises hr.out
  cases ht : thereB ⟨h, N.data.toList, F.data.toList, []⟩ ls with
  | true =>
    obtain ⟨q, h1, h2⟩ := find_there hrs ht
    exact value_there v ls q h N F V w hv hl hlt hr (Lib.hid ht) (Lib.hid h1) (Lib.hid (by rw [hV.out]; unfold valueR; rw [h2]))
  | false =>
    have h2 := find_not hrs ht
    cases hf : findD h F.data.toList with
    | some r => exact value_default v ls r h N F V w hv hl hlt hr (Lib.hid ht) (Lib.hid hf) (Lib.hid (by rw [hV.out]; unfold valueR; rw [h2, hf]))
    | none =>
      have e : V = ⟨#[]⟩ := by rw [hV.out]; unfold valueR; rw [h2, hf]
      rw [e]
      exact value_none v ls h N F w hv hl hlt hr (Lib.hid ht) (Lib.hid hf)
end Go.Proofs.YtmclnamgihphcaaGreat
