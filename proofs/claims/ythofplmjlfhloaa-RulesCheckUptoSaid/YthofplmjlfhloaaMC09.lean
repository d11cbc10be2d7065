/- conf.Names, walked (gen_cfk.py). -/
import Derived.Test.YthofplmjlfhloaaMC08
import Derived.Test.YthofplmjlfhloaaMC02
import Derived.Test.YthofplmjlfhloaaMC03
set_option linter.unusedVariables false
set_option linter.unusedSimpArgs false
set_option linter.unusedVariables false
set_option linter.unusedSimpArgs false
namespace Go.Proofs.Ythofplmjlfhloaa
open Go.RowKit

def newName (h : Int) (p : Option LineD) (q : LineD) : Bool := decide (q.head = h) && (match p with | none => true | some p => !(decide (p.head = q.head) && decide (p.name = q.name)))
theorem namesFrom_snoc (h : Int) (q : LineD) : ∀ (ls : List LineD) (p : Option LineD), namesFrom h p (ls ++ [q]) = namesFrom h p ls ++ (if newName h (match ls.getLast? with | some r => some r | none => p) q = true then [q.name] else []) := by
  intro ls
  induction ls with
  | nil =>
    intro p
    simp only [List.nil_append, namesFrom, List.append_nil, List.getLast?_nil]
    congr 1
    unfold newName
    cases p <;> simp
  | cons r ls ih =>
    intro p
    simp only [List.cons_append, namesFrom]
    rw [ih, List.append_assoc]
    congr 3
    cases ls with
    | nil => simp
    | cons s ls =>
      rw [List.getLast?_cons_cons]
      cases hgl : (s :: ls).getLast? with
      | none => simp at hgl
      | some r => rfl
def prevOf (ls : List LineD) (k : Nat) : Option LineD := match k with | 0 => none | j + 1 => ls[j]?
theorem names_step {h : Int} {ls : List LineD} {k : Nat} {q : LineD} (hq : ls[k]? = some q) : namesFrom h none (ls.take (k + 1)) = namesFrom h none (ls.take k) ++ (if newName h (prevOf ls k) q = true then [q.name] else []) := by
  obtain ⟨hk, e⟩ := List.getElem?_eq_some_iff.1 hq
  rw [List.take_succ_eq_append_getElem hk, e, namesFrom_snoc]
  congr 3
  cases k with
  | zero => simp [prevOf]
  | succ j =>
    rw [List.getLast?_take]
    simp [prevOf, List.getElem?_eq_getElem (show j < ls.length by omega)]
def nv1 (l : List UInt8) : List Value := [strv l]
def NamesPost (xs : List (List UInt8)) (w : World) (e : Ending) (w' : World) : Prop :=
  ∃ p c, e = .returned (.slice p xs.length c) ∧ OwnR 9 1 nv1 w w' (.slice p xs.length c) xs ∧ Keeps (fun _ => False) w w'
theorem strAll : ∃ i, Try.prog.info? 9 = some i ∧ i.zero = some (.string ⟨#[]⟩) ∧ i.size = 1 ∧ i.bytes = 16 := by
  have h : (Try.prog.info? 9).map (fun i => (i.zero, i.size, i.bytes)) = some (some (.string ⟨#[]⟩), 1, 16) := by kernel_rfl
  obtain ⟨i, hi, e⟩ := Option.map_eq_some_iff.1 h
  injection e with e1 e; injection e with e2 e3
  exact ⟨i, hi, e1, e2, e3⟩
theorem ite_len (c : Prop) [Decidable c] (x : List UInt8) : (if c then [x] else ([] : List (List UInt8))).length ≤ 1 := by split <;> simp
theorem names_len_le (h : Int) : ∀ (ls : List LineD) (p : Option LineD), (namesFrom h p ls).length ≤ ls.length := by
  intro ls
  induction ls with
  | nil => intro p; simp [namesFrom]
  | cons r ls ih =>
    intro p
    simp only [namesFrom, List.length_append, List.length_cons]
    exact Nat.le_trans (Nat.add_le_add (ite_len _ _) (ih _)) (by omega)

set_option maxRecDepth 100000 in
set_option maxHeartbeats 4000000 in
theorem names_any (v : Value) (ls : List LineD) (h : Int) (w : World) (hv : Hid (RowsAt 4 lineVals w v ls)) (hl : ls.length ≤ 64) (hlt : Hid (LinesLt ls 9223372036854775807)) (hr : Hid (rightC ls = true)) (h0 : h ≠ 0) :
    Calls Try.prog 18 #[v, .int .i64 h] w (NamesPost (namesFrom h none ls) w) := by
  obtain ⟨p, c, rfl⟩ := hv.out.slice
  obtain ⟨i0, hi0, hi1, hi2, hi3⟩ := strAll
  have hLn := Lib.hid hv.out.lines
  have e0 : (h == 0) = false := by simpa using h0
  clear h0
  go_enter Try.func18, Try.ntmps18
  go_wp2_with fail
  refine (right_c _ ls true _ hLn (by omega) hlt hr).mono ?_
  rintro e w2 ⟨rfl, k2⟩
  have k2' := Lib.hid k2
  have hv2 := Lib.hid (hv.out.keep k2)
  clear k2 hLn hr
  go_wp2_with fail
  go_loopw [17, 5] (fun iv nv wr => ∃ (k : Nat) (q : Option Addr) (d : Nat), k ≤ ls.length ∧ iv = .int .i64 k ∧ nv = .slice q (namesFrom h none (ls.take k)).length d ∧ Hid (OwnR 9 1 nv1 w2 wr nv (namesFrom h none (ls.take k))) ∧ Hid (Keeps (fun _ => False) w2 wr)) (fun iv _ _ => ls.length - (intOf iv).toNat)
  case atStart => exact ⟨0, none, 0, by omega, rfl, rfl, Lib.hid (OwnR.nil _ _ (Nat.le_refl _)), Lib.hid (Keeps.refl _ _)⟩
  case round =>
    obtain ⟨k, qa, d, hk, rfl, rfl, hO, hkr⟩ := hrel
    by_cases hlk : k < ls.length
    · obtain ⟨g, o, rfl, hrows⟩ := hv2.out.open (by omega)
      obtain ⟨q, hq⟩ : ∃ q, ls[k]? = some q := ⟨_, List.getElem?_eq_getElem hlk⟩
      obtain ⟨N, hN⟩ : ∃ N : ByteArray, N = ⟨q.name.toArray⟩ := ⟨_, rfl⟩
      obtain ⟨F, hF⟩ : ∃ N : ByteArray, N = ⟨q.leaf.toArray⟩ := ⟨_, rfl⟩
      obtain ⟨V, hV⟩ : ∃ N : ByteArray, N = ⟨q.value.toArray⟩ := ⟨_, rfl⟩
      have hrow : Hid (wr.rangeAt g (o + k * 4) [.int .i64 q.head, .string N, .string F, .string V]) := Lib.hid (by rw [hN, hF, hV]; exact hkr.out.rangeAt (hrows k q hq) id)
      have hNl : Hid (N.data.toList = q.name) := Lib.hid (by rw [hN])
      have hstep := Lib.hid (names_step (h := h) hq)
      have hnl : Hid ((namesFrom h none (ls.take k)).length ≤ 64) := Lib.hid (by have := names_len_le h (ls.take k) none; rw [List.length_take] at this; omega)
      have hBx : Hid (BlkAt (wr.alloc (.cells #[.int .i64 q.head, .string N, .string F, .string V] 58)) wr.heap.size 58 [.int .i64 q.head, .string N, .string F, .string V]) := Lib.hid (BlkAt.new _ _ _)
      have hkx : Hid (Keeps (fun _ => False) w2 (wr.alloc (.cells #[.int .i64 q.head, .string N, .string F, .string V] 58))) := Lib.hid (hkr.out.alloc _)
      have hOx : Hid (OwnR 9 1 nv1 w2 (wr.alloc (.cells #[.int .i64 q.head, .string N, .string F, .string V] 58)) (.slice qa (namesFrom h none (ls.take k)).length d) (namesFrom h none (ls.take k))) := Lib.hid (hO.out.keep ((Keeps.refl (fun _ => False) _).alloc _) (fun _ _ f => f))
      have hrows' := Lib.hid hrows; have hN' := Lib.hid hN; have hq' := Lib.hid hq
      clear hrows hN hF hV hq hO
      go_upto_region 7 with (first | ((with_reducible refine at_slot 21 ?_); refine wpList_load_mid rfl 58 (.tmp 20) rfl g (o + k * 4) rfl [.int .i64 q.head, .string N, .string F, .string V] _ hrow.out Try.underlying58 rfl lineInfo ?_) | ((with_reducible refine at_store 7 ?_); refine wpList_store_new rfl 58 (.tmp 7) (.tmp 21) rfl _ #[.int .i64 q.head, .string N, .string F, .string V] rfl rfl lineInfo rfl (line_one _ _ _ _) ?_))
      generalize hgx : wr.heap.size = gx at hBx ⊢
      have hgx' := Lib.hid hgx
      generalize hWx : wr.alloc (.cells #[.int .i64 q.head, .string N, .string F, .string V] 58) = Wx at hBx hkx hOx ⊢
      have hWx' := Lib.hid hWx
      clear hgx hWx
      obtain ⟨zh, hzh⟩ : ∃ z, decide (q.head = h) = z := ⟨_, rfl⟩
      have hzh' := Lib.hid hzh
      cases zh with
      | false =>
        have e1 : (q.head == h) = false := by simpa using hzh
        clear hzh
        refine wp_region_noPanic ?_
        refine wp_region_held_drew (S := (fun W => Keeps (fun _ => False) Wx W)) (by kernel_rfl) (((Keeps.refl _ _).drew)) (fun hHeld => ?_)
        refine tk 0 rfl ?_
        refine tkL 1 rfl (yieldsIf_load_cell (by rfl) 3 (.tmp 22) rfl gx 0 rfl _ (fun _ s => (hBx.out.keep s id).cell 0 _ rfl) (fun w s => load_int w _ _ _ s)) ?_
        refine tk 2 rfl ?_
        refine tk 3 rfl ?_
        refine tk 4 rfl ?_
        refine tkS 5 rfl ?_
        refine tkS 6 rfl ?_
        refine tkS 7 rfl ?_
        refine tkS 8 rfl ?_
        refine tkS 9 rfl ?_
        refine tkS 10 rfl ?_
        refine tkS 11 rfl ?_
        refine tkS 12 rfl ?_
        refine tkS 13 rfl ?_
        refine tkS 14 rfl ?_
        refine tkS 15 rfl ?_
        refine tkS 16 rfl ?_
        refine tk 17 rfl ?_
        refine wpAnyH_done (by kernel_rfl) (NoPanic.normal ?_) _
        have hkk := Lib.hid (hkx.out.trans hHeld)
        have hOk := Lib.hid (hOx.out.keep hHeld (fun _ _ f => f))
        have hsame : Hid (namesFrom h none (ls.take (k + 1)) = namesFrom h none (ls.take (k))) := Lib.hid (by
          rw [hstep.out, if_neg, List.append_nil]
          unfold newName; rw [hzh'.out]; exact Bool.false_ne_true)
        clear hHeld
        go_wp2_with fail
        refine ⟨⟨k + 1, qa, d, by omega, by go_num, by rw [hsame.out], by rw [hsame.out]; exact hOk, hkk⟩, by simp [intOf]; omega⟩
      | true =>
        have e1 : (q.head == h) = true := by simpa using hzh
        clear hzh
        cases k with
        | zero =>
          refine wp_region_noPanic ?_
          refine wp_region_held_drew (S := (fun W => Keeps (fun _ => False) Wx W)) (by kernel_rfl) (((Keeps.refl _ _).drew)) (fun hHeld => ?_)
          refine tk 0 rfl ?_
          refine tkL 1 rfl (yieldsIf_load_cell (by rfl) 3 (.tmp 22) rfl gx 0 rfl _ (fun _ s => (hBx.out.keep s id).cell 0 _ rfl) (fun w s => load_int w _ _ _ s)) ?_
          refine tk 2 rfl ?_
          refine tk 3 rfl ?_
          refine tk 4 rfl ?_
          refine tk 5 rfl ?_
          refine tk 6 rfl ?_
          refine tk 7 rfl ?_
          refine tkS 8 rfl ?_
          refine tkS 9 rfl ?_
          refine tkS 10 rfl ?_
          refine tkS 11 rfl ?_
          refine tkS 12 rfl ?_
          refine tkS 13 rfl ?_
          refine tkS 14 rfl ?_
          refine tkS 15 rfl ?_
          refine tk 16 rfl ?_
          refine tk 17 rfl ?_
          refine wpAnyH_done (by kernel_rfl) (NoPanic.normal ?_) _
          have hkk := Lib.hid (hkx.out.trans hHeld)
          have hOk := Lib.hid (hOx.out.keep hHeld (fun _ _ f => f))
          have hBk := Lib.hid (hBx.out.keep hHeld id)
          have hsame : Hid (namesFrom h none (ls.take (0 + 1)) = namesFrom h none (ls.take (0)) ++ [N.data.toList]) := Lib.hid (by
            rw [hstep.out, if_pos, hNl.out]
            show newName h none q = true; unfold newName; rw [hzh'.out]; rfl)
          clear hHeld hOx hkx hBx
          have cN := hBk.out.cell 1 _ rfl
          go_wp2_with ((with_reducible refine at_slot 44 ?_); go_must (refine wpList_append_r rfl (.tmp 40) (.tmp 43) 51 9 rfl i0 _ 16 Try.underlying51 hi0 hi1 hi2 hi3 rfl (by decide) (by decide) (fun _ => rfl) w2 _ (namesFrom h none (ls.take (0))).length (namesFrom h none (ls.take (0))) rfl rfl (hOk.out.keep ((Keeps.refl (fun _ => False) _).alloc _) (fun _ _ f => f)) _ rfl N.data.toList (cells_new rfl [.string N] _) (fun u hu => (by simp [nv1] at hu; subst hu; rfl)) (by have := hnl.out; omega) ?_); intro q8 d8 w8 hO8 hg8)
          have hk8 := Lib.hid (OwnR.keeps (hOk.out.keep ((Keeps.refl (fun _ => False) _).alloc _) (fun _ _ f => f)) (hkk.out.alloc _) hg8.out)
          refine ⟨⟨0 + 1, q8, d8, by omega, by go_num, by rw [hsame.out]; simp, by rw [hsame.out]; exact hO8, hk8⟩, by simp [intOf]; omega⟩
        | succ j =>
          obtain ⟨b, hbq⟩ : ∃ b, ls[j]? = some b := ⟨_, List.getElem?_eq_getElem (by omega)⟩
          obtain ⟨Nb, hNb⟩ : ∃ N : ByteArray, N = ⟨b.name.toArray⟩ := ⟨_, rfl⟩
          obtain ⟨Fb, hFb⟩ : ∃ N : ByteArray, N = ⟨b.leaf.toArray⟩ := ⟨_, rfl⟩
          obtain ⟨Vb, hVb⟩ : ∃ N : ByteArray, N = ⟨b.value.toArray⟩ := ⟨_, rfl⟩
          have hprev : Hid (Wx.rangeAt g (o + j * 4) [.int .i64 b.head, .string Nb, .string Fb, .string Vb]) := Lib.hid (by rw [hNb, hFb, hVb]; exact hkx.out.rangeAt (hrows'.out j b hbq) id)
          obtain ⟨zs, hzs⟩ : ∃ z, (decide (b.head = q.head) && decide (Nb.data.toList = N.data.toList)) = z := ⟨_, rfl⟩
          have hzs' := Lib.hid hzs
          have hNbl : Hid (Nb.data.toList = b.name) := Lib.hid (by rw [hNb])
          have hbq' := Lib.hid hbq
          clear hNb hFb hVb hzs hbq
          have l1 : IntKind.i64.wrap (j : Int) = (j : Int) := IntWalk.i64_in _ (by omega)
          have l3 : (0 : Int) ≤ (j : Int) := by omega
          have l4 : (j : Int) < ls.length := by omega
          have l5 : (0 : Int) < (j : Int) + 1 := by omega
          have l6 : ((j : Int) + 1 == 0) = false := by simp; omega
          cases zs with
          | true =>
            refine wp_region_noPanic ?_
            refine wp_region_held_drew (S := (fun W => Keeps (fun _ => False) Wx W)) (by kernel_rfl) (((Keeps.refl _ _).drew)) (fun hHeld => ?_)
            refine tk 0 rfl ?_
            refine tkL 1 rfl (yieldsIf_load_cell (by rfl) 3 (.tmp 22) rfl gx 0 rfl _ (fun _ s => (hBx.out.keep s id).cell 0 _ rfl) (fun w s => load_int w _ _ _ s)) ?_
            refine tk 2 rfl ?_
            refine tk 3 rfl ?_
            refine tk 4 rfl ?_
            refine tk 5 rfl ?_
            refine tk 6 rfl ?_
            refine tk 7 rfl ?_
            refine tk 8 rfl ?_
            refine tk 9 rfl ?_
            refine tk 10 rfl ?_
            refine tk 11 rfl ?_
            refine tkL 12 rfl (yieldsIf_load_mid (by rfl) 58 (.tmp 33) rfl g (o + j * 4) rfl [.int .i64 b.head, .string Nb, .string Fb, .string Vb] _ (fun _ s => s.rangeAt hprev.out id) Try.underlying58 rfl lineInfo) ?_
            refine tkL 13 rfl (yieldsIf_load_mid (by rfl) 58 (.tmp 7) rfl gx 0 rfl [.int .i64 q.head, .string N, .string F, .string V] _ (fun _ s => (hBx.out.keep s id).range) Try.underlying58 rfl lineInfo) ?_
            refine stepL 14 rfl (by kernel_rfl) (fun K hK => ?_)
            go_simp
            (refine (sameName_any b.head q.head Nb Fb Vb N F V _ _ hzs').mono ?_; rintro e w5 ⟨rfl, k5⟩; have k5' := Lib.hid k5; clear k5)
            go_wp2_with fail
            refine hK.out _ _ ((hHeld.trans k5'.out)) (fun hHeld => ?_)
            clear hK K
            try simp only [Act.put, sA, sZ, sS]
            refine tk 15 rfl ?_
            refine tk 16 rfl ?_
            refine tk 17 rfl ?_
            refine wpAnyH_done (by kernel_rfl) (NoPanic.normal ?_) _
            have hkk := Lib.hid (hkx.out.trans hHeld)
            have hOk := Lib.hid (hOx.out.keep hHeld (fun _ _ f => f))
            have hsame : Hid (namesFrom h none (ls.take (j + 1 + 1)) = namesFrom h none (ls.take (j + 1))) := Lib.hid (by
              rw [hstep.out, if_neg, List.append_nil]
              show ¬ (newName h (ls[j]?) q = true); rw [hbq'.out]; have hz := hzs'.out; rw [hNl.out, hNbl.out] at hz; unfold newName; rw [hzh'.out]; simp only [hz]; decide)
            clear hHeld
            go_wp2_with fail
            refine ⟨⟨j + 1 + 1, qa, d, by omega, by go_num, by rw [hsame.out], by rw [hsame.out]; exact hOk, hkk⟩, by simp [intOf]; omega⟩
          | false =>
            refine wp_region_noPanic ?_
            refine wp_region_held_drew (S := (fun W => Keeps (fun _ => False) Wx W)) (by kernel_rfl) (((Keeps.refl _ _).drew)) (fun hHeld => ?_)
            refine tk 0 rfl ?_
            refine tkL 1 rfl (yieldsIf_load_cell (by rfl) 3 (.tmp 22) rfl gx 0 rfl _ (fun _ s => (hBx.out.keep s id).cell 0 _ rfl) (fun w s => load_int w _ _ _ s)) ?_
            refine tk 2 rfl ?_
            refine tk 3 rfl ?_
            refine tk 4 rfl ?_
            refine tk 5 rfl ?_
            refine tk 6 rfl ?_
            refine tk 7 rfl ?_
            refine tk 8 rfl ?_
            refine tk 9 rfl ?_
            refine tk 10 rfl ?_
            refine tk 11 rfl ?_
            refine tkL 12 rfl (yieldsIf_load_mid (by rfl) 58 (.tmp 33) rfl g (o + j * 4) rfl [.int .i64 b.head, .string Nb, .string Fb, .string Vb] _ (fun _ s => s.rangeAt hprev.out id) Try.underlying58 rfl lineInfo) ?_
            refine tkL 13 rfl (yieldsIf_load_mid (by rfl) 58 (.tmp 7) rfl gx 0 rfl [.int .i64 q.head, .string N, .string F, .string V] _ (fun _ s => (hBx.out.keep s id).range) Try.underlying58 rfl lineInfo) ?_
            refine stepL 14 rfl (by kernel_rfl) (fun K hK => ?_)
            go_simp
            (refine (sameName_any b.head q.head Nb Fb Vb N F V _ _ hzs').mono ?_; rintro e w5 ⟨rfl, k5⟩; have k5' := Lib.hid k5; clear k5)
            go_wp2_with fail
            refine hK.out _ _ ((hHeld.trans k5'.out)) (fun hHeld => ?_)
            clear hK K
            try simp only [Act.put, sA, sZ, sS]
            refine tk 15 rfl ?_
            refine tk 16 rfl ?_
            refine tk 17 rfl ?_
            refine wpAnyH_done (by kernel_rfl) (NoPanic.normal ?_) _
            have hkk := Lib.hid (hkx.out.trans hHeld)
            have hOk := Lib.hid (hOx.out.keep hHeld (fun _ _ f => f))
            have hBk := Lib.hid (hBx.out.keep hHeld id)
            have hsame : Hid (namesFrom h none (ls.take (j + 1 + 1)) = namesFrom h none (ls.take (j + 1)) ++ [N.data.toList]) := Lib.hid (by
              rw [hstep.out, if_pos, hNl.out]
              show newName h (ls[j]?) q = true; rw [hbq'.out]; have hz := hzs'.out; rw [hNl.out, hNbl.out] at hz; unfold newName; rw [hzh'.out]; simp only [hz]; decide)
            clear hHeld hOx hkx hBx
            have cN := hBk.out.cell 1 _ rfl
            go_wp2_with ((with_reducible refine at_slot 44 ?_); go_must (refine wpList_append_r rfl (.tmp 40) (.tmp 43) 51 9 rfl i0 _ 16 Try.underlying51 hi0 hi1 hi2 hi3 rfl (by decide) (by decide) (fun _ => rfl) w2 _ (namesFrom h none (ls.take (j + 1))).length (namesFrom h none (ls.take (j + 1))) rfl rfl (hOk.out.keep ((Keeps.refl (fun _ => False) _).alloc _) (fun _ _ f => f)) _ rfl N.data.toList (cells_new rfl [.string N] _) (fun u hu => (by simp [nv1] at hu; subst hu; rfl)) (by have := hnl.out; omega) ?_); intro q8 d8 w8 hO8 hg8)
            have hk8 := Lib.hid (OwnR.keeps (hOk.out.keep ((Keeps.refl (fun _ => False) _).alloc _) (fun _ _ f => f)) (hkk.out.alloc _) hg8.out)
            refine ⟨⟨j + 1 + 1, q8, d8, by omega, by go_num, by rw [hsame.out]; simp, by rw [hsame.out]; exact hO8, hk8⟩, by simp [intOf]; omega⟩
    · obtain rfl : k = ls.length := by omega
      rw [List.take_length] at hO
      have hO' := Lib.hid (hO.out.older (w0 := w) k2'.out.size)
      have hfin := Lib.hid (k2'.out.trans hkr.out)
      rw [List.take_length]
      clear hO hkr
      go_wp2_with fail
      go_ret
      exact ⟨qa, d, rfl, hO'.out, hfin.out⟩
end Go.Proofs.Ythofplmjlfhloaa
/- The code's Value is the document's. -/
set_option linter.unusedVariables false
set_option linter.unusedSimpArgs false
namespace Go.Proofs.Ythofplmjlfhloaa
open Go.RowKit

theorem posL_key {x q : LineD} (h : q.head = x.head ∧ q.name = x.name ∧ q.leaf = x.leaf) : ∀ ls : List LineD, posL q ls = posL x ls := by
  intro ls
  induction ls with
  | nil => rfl
  | cons a ls ih =>
    have e : lessB a q = lessB a x := by unfold lessB; rw [h.1, h.2.1, h.2.2]
    rw [posL, posL, e, ih]
theorem thereB_key {x q : LineD} (h : q.head = x.head ∧ q.name = x.name ∧ q.leaf = x.leaf) (ls : List LineD) : thereB q ls = thereB x ls := by
  unfold thereB
  rw [posL_key h]
  cases ls[posL x ls]? with
  | none => rfl
  | some a =>
    have e : lessB q a = lessB x a := by unfold lessB; rw [h.1, h.2.1, h.2.2]
    simp [e]
theorem keyB_iff {h : Int} {n l : List UInt8} {q : LineD} : keyB h n l q = true ↔ q.head = h ∧ q.name = n ∧ q.leaf = l := by
  unfold keyB
  simp [Bool.and_eq_true, and_assoc]
theorem find_there {h : Int} {n l : List UInt8} {ls : List LineD} (hr : rises ls) (ht : thereB ⟨h, n, l, []⟩ ls = true) : ∃ q, ls[posL ⟨h, n, l, []⟩ ls]? = some q ∧ ls.find? (keyB h n l) = some q := by
  have ht2 := ht
  unfold thereB at ht2
  cases hq : ls[posL ⟨h, n, l, []⟩ ls]? with
  | none => rw [hq] at ht2; cases ht2
  | some q =>
    rw [hq] at ht2
    have h1 : lessB ⟨h, n, l, []⟩ q = false := by simpa using ht2
    have h2 := posL_at hq
    have hk := key_eq h2 h1
    refine ⟨q, rfl, find_first hq (fun j r hj hjr => ?_) (keyB_iff.2 hk)⟩
    have h3 := posL_lt hj hjr
    rw [Bool.eq_false_iff]
    intro e
    exact less_key h3 (keyB_iff.1 e)
theorem find_not {h : Int} {n l : List UInt8} {ls : List LineD} (hr : rises ls) (ht : thereB ⟨h, n, l, []⟩ ls = false) : ls.find? (keyB h n l) = none := by
  rw [List.find?_eq_none]
  intro q hq e
  have hk := keyB_iff.1 e
  have h1 := there_at hr hq
  rw [thereB_key (x := ⟨h, n, l, []⟩) hk] at h1
  rw [ht] at h1; cases h1
set_option maxRecDepth 100000 in
set_option maxHeartbeats 4000000 in
/-- a leaf that isn't set, and is none -/
theorem value_none (v : Value) (ls : List LineD) (h : Int) (N F : ByteArray) (w : World) (hv : Hid (RowsAt 4 lineVals w v ls)) (hl : ls.length ≤ 64) (hlt : Hid (LinesLt ls 9223372036854775807)) (hr : Hid (rightC ls = true))
    (hth : Hid (thereB ⟨h, N.data.toList, F.data.toList, []⟩ ls = false)) (hf : Hid (findD h F.data.toList = none)) :
    Calls Try.prog 41 #[v, .int .i64 h, .string N, .string F] w (NewRes (.string ⟨#[]⟩) w) := by
  obtain ⟨p, c, rfl⟩ := hv.out.slice
  have hLn := Lib.hid hv.out.lines
  obtain ⟨at', hat⟩ : ∃ k, posL ⟨h, N.data.toList, F.data.toList, []⟩ ls = k := ⟨_, rfl⟩
  have hat' := Lib.hid hat
  clear hat hv
  go_enter Try.func41, Try.ntmps41
  go_wp2_with fail
  refine (right_c _ ls true _ hLn (by omega) hlt hr).mono ?_
  rintro e w2 ⟨rfl, k2⟩
  have k2' := Lib.hid k2; clear k2
  go_wp2_with fail
  refine (find_c _ ls h N F ⟨#[]⟩ at' false _ (Lib.hid (hLn.out.keep k2'.out (fun _ _ _ f => f))) (by omega) hat' hth).mono ?_
  rintro e w3 ⟨rfl, k3⟩
  have k3' := Lib.hid (k2'.out.trans k3)
  clear k3 k2' hLn
  go_wp2_with fail
  refine (find_no h F _ hf).mono ?_
  rintro e w5 ⟨rfl, k5⟩
  have k5' := Lib.hid (k3'.out.trans k5)
  clear k5 k3'
  have c6 := (show (w5.alloc (.cells #[.int .i64 0, .string ⟨#[]⟩, .int .i64 0, .int .i64 0, .int .i64 0, .slice none 0 0, .string ⟨#[]⟩, .int .i64 0] 97)).cell? ⟨w5.heap.size, 6, none⟩ = some (.string ⟨#[]⟩) by simp [go_sem])
  go_wp2_with ((with_reducible refine at_store 11 ?_); refine wpList_store_new rfl 97 (.tmp 11) (.tmp 35) rfl _ #[.int .i64 0, .string ⟨#[]⟩, .int .i64 0, .int .i64 0, .int .i64 0, .slice none 0 0, .string ⟨#[]⟩, .int .i64 0] rfl rfl rowInfo rfl (row_one _ _ _ _ _ _ _ _ _ _) ?_)
  go_ret
  exact ⟨rfl, k5'.out.alloc _⟩
/-- Value of a right configuration, whatever is asked -/
theorem value_any (v : Value) (ls : List LineD) (h : Int) (N F V : ByteArray) (w : World) (hv : Hid (RowsAt 4 lineVals w v ls)) (hr : Hid (rightC ls = true)) (hV : Hid (V = ⟨(valueR ls h N.data.toList F.data.toList).toArray⟩)) :
    Calls Try.prog 41 #[v, .int .i64 h, .string N, .string F] w (NewRes (.string V) w) := by
  have hl := right_len hr.out
  have hlt := Lib.hid (right_lt hr.out 9223372036854775807 (by omega))
  have hrs := right_rises hr.out
  cases ht : thereB ⟨h, N.data.toList, F.data.toList, []⟩ ls with
  | true =>
    obtain ⟨q, h1, h2⟩ := find_there hrs ht
    exact value_there v ls q h N F V w hv hl hlt hr (Lib.hid ht) (Lib.hid h1) (Lib.hid (by rw [hV.out]; unfold valueR; rw [h2]))
  | false =>
    have h2 := find_not hrs ht
    cases hf : findD h F.data.toList with
    | some r => exact value_default v ls r h N F V w hv hl hlt hr (Lib.hid ht) (Lib.hid hf) (Lib.hid (by rw [hV.out]; unfold valueR; rw [h2, hf]))
    | none =>
      have e : V = ⟨#[]⟩ := by rw [hV.out]; unfold valueR; rw [h2, hf]
      rw [e]
      exact value_none v ls h N F w hv hl hlt hr (Lib.hid ht) (Lib.hid hf)
end Go.Proofs.Ythofplmjlfhloaa
/- The document's Names, walked; they are the code's (gen_cgp.py). -/
set_option linter.unusedVariables false
set_option linter.unusedSimpArgs false
namespace Go.Proofs.Ythofplmjlfhloaa
open Go.RowKit

def stepN (h : Int) (o : List (List UInt8)) (q : LineD) : List (List UInt8) := if q.head = h ∧ o.getLast? ≠ some q.name then o ++ [q.name] else o
def nR (h : Int) (ls : List LineD) (k : Nat) : List (List UInt8) := (ls.take k).foldl (stepN h) []
theorem nR_step {h : Int} {q : LineD} {ls : List LineD} {k : Nat} (hq : ls[k]? = some q) : nR h ls (k + 1) = stepN h (nR h ls k) q := by
  obtain ⟨hk, e⟩ := List.getElem?_eq_some_iff.1 hq
  unfold nR
  rw [List.take_succ_eq_append_getElem hk, e, List.foldl_append]; rfl
theorem nR_len (h : Int) (ls : List LineD) : ∀ k, (nR h ls k).length ≤ k := by
  intro k
  induction k with
  | zero => simp [nR]
  | succ k ih =>
    by_cases hk : k < ls.length
    · rw [nR_step (List.getElem?_eq_getElem hk)]
      unfold stepN
      split
      · simp; omega
      · omega
    · have : nR h ls (k + 1) = nR h ls k := by unfold nR; rw [List.take_of_length_le (by omega), List.take_of_length_le (by omega)]
      rw [this]; omega

set_option maxRecDepth 100000 in
set_option maxHeartbeats 8000000 in
theorem rNames_c (v : Value) (ls : List LineD) (h : Int) (w : World) (hv : Hid (RowsAt 4 lineVals w v ls)) (hr : Hid (rightC ls = true)) (h0 : h ≠ 0) :
    Calls Try.prog 27 #[v, .int .i64 h] w (NamesPost (nR h ls ls.length) w) := by
  have hlen := right_len hr.out
  have hlt := Lib.hid (right_lt hr.out 8796093022000 (by omega))
  obtain ⟨p, c, rfl⟩ := hv.out.slice
  obtain ⟨i0, hi0, hi1, hi2, hi3⟩ := strAll
  have hLn := Lib.hid hv.out.lines
  have e0 : (h == 0) = false := by simpa using h0
  clear h0
  go_enter Try.func27, Try.ntmps27
  go_wp2_with fail
  refine (rRight_c _ ls true _ hLn (by omega) hlt hr).mono ?_
  rintro e w2 ⟨rfl, k2⟩
  have k2' := Lib.hid k2
  have hv2 := Lib.hid (hv.out.keep k2)
  clear k2 hLn hr hlt
  go_wp2_with fail
  go_loopw [6, 5] (fun iv nv wr => ∃ (k : Nat) (q : Option Addr) (d : Nat), k ≤ ls.length ∧ iv = .int .i64 k ∧ nv = .slice q (nR h ls k).length d ∧ Hid (OwnR 9 1 nv1 w2 wr nv (nR h ls k)) ∧ Hid (Keeps (fun _ => False) w2 wr)) (fun iv _ _ => ls.length - (intOf iv).toNat)
  case atStart => exact ⟨0, none, 0, by omega, rfl, rfl, Lib.hid (OwnR.nil _ _ (Nat.le_refl _)), Lib.hid (Keeps.refl _ _)⟩
  case round =>
    obtain ⟨k, qa, d, hk, rfl, rfl, hO, hKw⟩ := hrel
    have hnl := nR_len h ls k
    generalize hnk : nR h ls k = D at hO hnl ⊢
    have hnk' := Lib.hid hnk
    clear hnk
    by_cases hlk : k < ls.length
    · obtain ⟨g, o, rfl, hrows⟩ := hv2.out.open (by omega)
      obtain ⟨q, hq⟩ : ∃ q, ls[k]? = some q := ⟨_, List.getElem?_eq_getElem hlk⟩
      obtain ⟨Nq, hN⟩ : ∃ N : ByteArray, N = ⟨q.name.toArray⟩ := ⟨_, rfl⟩
      obtain ⟨Fq, hF⟩ : ∃ N : ByteArray, N = ⟨q.leaf.toArray⟩ := ⟨_, rfl⟩
      obtain ⟨Vq, hVq⟩ : ∃ N : ByteArray, N = ⟨q.value.toArray⟩ := ⟨_, rfl⟩
      have hrow : Hid (wr.rangeAt g (o + k * 4) [.int .i64 q.head, .string Nq, .string Fq, .string Vq]) := Lib.hid (by rw [hN, hF, hVq]; exact hKw.out.rangeAt (hrows k q hq) id)
      have hNl : Hid (Nq.data.toList = q.name) := Lib.hid (by rw [hN])
      have hstep := Lib.hid (nR_step (h := h) hq)
      rw [hnk'.out] at hstep
      have hnl' := Lib.hid hnl
      have m1 : (0 : Int) ≤ (k : Int) := by omega
      have m2 : (k : Int) < (ls.length : Int) := by omega
      clear hrows hN hF hVq hq hnk' hnl
      by_cases a1 : q.head = h
      · have e1 : (q.head == h) = true := by simp [a1]
        have a1' := Lib.hid a1; clear a1
        cases D with
        | nil =>
          go_upto_region 7 with fail
          refine wp_region_noPanic ?_
          refine wp_region_held_drew (S := (fun W => Keeps (fun _ => False) wr W)) (by kernel_rfl) (((Keeps.refl _ _).drew)) (fun hHeld => ?_)
          refine tk 0 rfl ?_
          refine tk 1 rfl ?_
          refine tk 2 rfl ?_
          refine tk 3 rfl ?_
          refine tkL 4 rfl (yieldsIf_load_cell (by rfl) 3 (.tmp 23) rfl g (o + k * 4 + 0) rfl _ (fun _ s => s.rangeAt hrow.out id 0 _ rfl) (fun w s => load_int w _ _ _ s)) ?_
          refine tk 5 rfl ?_
          refine tk 6 rfl ?_
          refine tk 7 rfl ?_
          refine tk 8 rfl ?_
          refine tk 9 rfl ?_
          refine tk 10 rfl ?_
          refine tk 11 rfl ?_
          refine tkS 12 rfl ?_
          refine tkS 13 rfl ?_
          refine tkS 14 rfl ?_
          refine tkS 15 rfl ?_
          refine tkS 16 rfl ?_
          refine tkS 17 rfl ?_
          refine tkS 18 rfl ?_
          refine tkS 19 rfl ?_
          refine tkS 20 rfl ?_
          refine tkS 21 rfl ?_
          refine tkS 22 rfl ?_
          refine tkS 23 rfl ?_
          refine tk 24 rfl ?_
          refine tk 25 rfl ?_
          refine wpAnyH_done (by kernel_rfl) (NoPanic.normal ?_) _
          have hkk := Lib.hid (hKw.out.trans hHeld)
          have hOk := Lib.hid (hO.out.keep hHeld (fun _ _ f => f))
          have hrk := Lib.hid (hHeld.rangeAt hrow.out id)
          have hsame : Hid (nR h ls (k + 1) = [] ++ [Nq.data.toList]) := Lib.hid (by rw [hstep.out]; unfold stepN; rw [if_pos ⟨a1'.out, by simp⟩, hNl.out])
          clear hHeld
          generalize wr.drew = Wr at hkk hOk hrk ⊢
          have cN : Wr.cell? ⟨g, o + k * 4 + 1, none⟩ = some (.string Nq) := hrk.out 1 _ rfl
          go_wp2_with ((with_reducible refine at_slot 53 ?_); go_must (refine wpList_append_r rfl (.tmp 46) (.tmp 52) 51 9 rfl i0 _ 16 Try.underlying51 hi0 hi1 hi2 hi3 rfl (by decide) (by decide) (fun _ => rfl) w2 _ (0) ([]) rfl rfl (hOk.out.keep ((Keeps.refl (fun _ => False) _).alloc _) (fun _ _ f => f)) _ rfl Nq.data.toList (cells_new rfl [.string Nq] _) (fun u hu => (by simp [nv1] at hu; subst hu; rfl)) (by first | omega | (have := hnl'.out; omega) | (have := hnl'.out; have := hj'.out; omega)) ?_); intro q8 d8 w8 hO8 hg8)
          have hk8 := Lib.hid (OwnR.keeps (hOk.out.keep ((Keeps.refl (fun _ => False) _).alloc _) (fun _ _ f => f)) (hkk.out.alloc _) hg8.out)
          refine ⟨⟨k + 1, q8, d8, by omega, by go_num, by rw [hsame.out, List.length_append]; rfl, by rw [hsame.out]; exact hO8, hk8⟩, by simp [intOf]; omega⟩
        | cons x D =>
          obtain ⟨j, hj⟩ : ∃ j, (x :: D).length = j + 1 := ⟨D.length, rfl⟩
          obtain ⟨y, hy⟩ : ∃ y, (x :: D)[j]? = some y := ⟨_, List.getElem?_eq_getElem (by omega)⟩
          have hlast : Hid ((x :: D).getLast? = some y) := Lib.hid (by rw [List.getLast?_eq_getElem?, hj]; simpa using hy)
          obtain ⟨Ny, hNy⟩ : ∃ N : ByteArray, N = ⟨y.toArray⟩ := ⟨_, rfl⟩
          have hNyl : Hid (Ny.data.toList = y) := Lib.hid (by rw [hNy])
          have hRD := OwnR.at (cv := nv1) (sz := 1) (fun _ => rfl) hO.out
          obtain ⟨g5, o5, rfl, hrow5⟩ := hRD.open (by simp)
          have hcy : Hid (wr.cell? ⟨g5, o5 + j, none⟩ = some (.string Ny)) := Lib.hid (by
            have := hrow5 j y hy 0 _ rfl
            rw [Nat.mul_one, Nat.add_zero] at this
            rw [hNy]; exact this)
          generalize hxD : x :: D = D2 at hO hstep hnl' hlast hj ⊢
          rw [hj] at hO ⊢
          have hj' := Lib.hid hj
          have l1 : IntKind.i64.wrap (j : Int) = (j : Int) := IntWalk.i64_in _ (by have := hnl'.out; omega)
          have l3 : (0 : Int) ≤ (j : Int) := by omega
          have l6 : ((j : Int) + 1 == 0) = false := by simp; omega
          have l7 : (j : Int) < (j : Int) + 1 := by omega
          have hjl := hnl'.out
          clear hRD hrow5 hxD hy hNy hj
          by_cases a2 : Ny.data.toList = Nq.data.toList
          · have e2 := beq_list a2
            have a2' := Lib.hid a2; clear a2
            go_upto_region 7 with fail
            refine wp_region_noPanic ?_
            refine wp_region_held_drew (S := (fun W => Keeps (fun _ => False) wr W)) (by kernel_rfl) (((Keeps.refl _ _).drew)) (fun hHeld => ?_)
            refine tk 0 rfl ?_
            refine tk 1 rfl ?_
            refine tk 2 rfl ?_
            refine tk 3 rfl ?_
            refine tkL 4 rfl (yieldsIf_load_cell (by rfl) 3 (.tmp 23) rfl g (o + k * 4 + 0) rfl _ (fun _ s => s.rangeAt hrow.out id 0 _ rfl) (fun w s => load_int w _ _ _ s)) ?_
            refine tk 5 rfl ?_
            refine tk 6 rfl ?_
            refine tk 7 rfl ?_
            refine tk 8 rfl ?_
            refine tk 9 rfl ?_
            refine tk 10 rfl ?_
            refine tk 11 rfl ?_
            refine tk 12 rfl ?_
            refine tk 13 rfl ?_
            refine tk 14 rfl ?_
            refine tk 15 rfl ?_
            refine tk 16 rfl ?_
            refine tkL 17 rfl (yieldsIf_load_cell (by rfl) 9 (.tmp 36) rfl g5 (o5 + j) rfl _ (fun _ s => by rw [s.cell (p := ⟨g5, o5 + j, none⟩) (World.block_lt_of_cell? wr _ hcy.out) id]; exact hcy.out) (fun w s => load_str w _ _ _ s)) ?_
            refine tk 18 rfl ?_
            refine tk 19 rfl ?_
            refine tk 20 rfl ?_
            refine tk 21 rfl ?_
            refine tkL 22 rfl (yieldsIf_load_cell (by rfl) 9 (.tmp 41) rfl g (o + k * 4 + 1) rfl _ (fun _ s => s.rangeAt hrow.out id 1 _ rfl) (fun w s => load_str w _ _ _ s)) ?_
            refine tk 23 rfl ?_
            refine tk 24 rfl ?_
            refine tk 25 rfl ?_
            refine wpAnyH_done (by kernel_rfl) (NoPanic.normal ?_) _
            have hkk := Lib.hid (hKw.out.trans hHeld)
            have hOk := Lib.hid (hO.out.keep hHeld (fun _ _ f => f))
            have hsame : Hid (nR h ls (k + 1) = D2) := Lib.hid (by rw [hstep.out]; unfold stepN; rw [if_neg (fun e => e.2 (by rw [hlast.out, ← hNyl.out, ← hNl.out, a2'.out]))])
            clear hHeld
            go_wp2_with fail
            refine ⟨⟨k + 1, _, d, by omega, by go_num, by rw [hsame.out, hj'.out], by rw [hsame.out]; exact hOk, hkk⟩, by simp [intOf]; omega⟩
          · have e2 := bne_list a2
            have a2' := Lib.hid a2; clear a2
            go_upto_region 7 with fail
            refine wp_region_noPanic ?_
            refine wp_region_held_drew (S := (fun W => Keeps (fun _ => False) wr W)) (by kernel_rfl) (((Keeps.refl _ _).drew)) (fun hHeld => ?_)
            refine tk 0 rfl ?_
            refine tk 1 rfl ?_
            refine tk 2 rfl ?_
            refine tk 3 rfl ?_
            refine tkL 4 rfl (yieldsIf_load_cell (by rfl) 3 (.tmp 23) rfl g (o + k * 4 + 0) rfl _ (fun _ s => s.rangeAt hrow.out id 0 _ rfl) (fun w s => load_int w _ _ _ s)) ?_
            refine tk 5 rfl ?_
            refine tk 6 rfl ?_
            refine tk 7 rfl ?_
            refine tk 8 rfl ?_
            refine tk 9 rfl ?_
            refine tk 10 rfl ?_
            refine tk 11 rfl ?_
            refine tk 12 rfl ?_
            refine tk 13 rfl ?_
            refine tk 14 rfl ?_
            refine tk 15 rfl ?_
            refine tk 16 rfl ?_
            refine tkL 17 rfl (yieldsIf_load_cell (by rfl) 9 (.tmp 36) rfl g5 (o5 + j) rfl _ (fun _ s => by rw [s.cell (p := ⟨g5, o5 + j, none⟩) (World.block_lt_of_cell? wr _ hcy.out) id]; exact hcy.out) (fun w s => load_str w _ _ _ s)) ?_
            refine tk 18 rfl ?_
            refine tk 19 rfl ?_
            refine tk 20 rfl ?_
            refine tk 21 rfl ?_
            refine tkL 22 rfl (yieldsIf_load_cell (by rfl) 9 (.tmp 41) rfl g (o + k * 4 + 1) rfl _ (fun _ s => s.rangeAt hrow.out id 1 _ rfl) (fun w s => load_str w _ _ _ s)) ?_
            refine tk 23 rfl ?_
            refine tk 24 rfl ?_
            refine tk 25 rfl ?_
            refine wpAnyH_done (by kernel_rfl) (NoPanic.normal ?_) _
            have hkk := Lib.hid (hKw.out.trans hHeld)
            have hOk := Lib.hid (hO.out.keep hHeld (fun _ _ f => f))
            have hrk := Lib.hid (hHeld.rangeAt hrow.out id)
            have hsame : Hid (nR h ls (k + 1) = D2 ++ [Nq.data.toList]) := Lib.hid (by rw [hstep.out]; unfold stepN; rw [if_pos ⟨a1'.out, fun e => a2'.out (by rw [hlast.out] at e; injection e with e; rw [hNyl.out, hNl.out, e])⟩, hNl.out])
            clear hHeld
            generalize wr.drew = Wr at hkk hOk hrk ⊢
            have cN : Wr.cell? ⟨g, o + k * 4 + 1, none⟩ = some (.string Nq) := hrk.out 1 _ rfl
            go_wp2_with ((with_reducible refine at_slot 53 ?_); go_must (refine wpList_append_r rfl (.tmp 46) (.tmp 52) 51 9 rfl i0 _ 16 Try.underlying51 hi0 hi1 hi2 hi3 rfl (by decide) (by decide) (fun _ => rfl) w2 _ (j + 1) (D2) hj'.out rfl (hOk.out.keep ((Keeps.refl (fun _ => False) _).alloc _) (fun _ _ f => f)) _ rfl Nq.data.toList (cells_new rfl [.string Nq] _) (fun u hu => (by simp [nv1] at hu; subst hu; rfl)) (by first | omega | (have := hnl'.out; omega) | (have := hnl'.out; have := hj'.out; omega)) ?_); intro q8 d8 w8 hO8 hg8)
            have hk8 := Lib.hid (OwnR.keeps (hOk.out.keep ((Keeps.refl (fun _ => False) _).alloc _) (fun _ _ f => f)) (hkk.out.alloc _) hg8.out)
            refine ⟨⟨k + 1, q8, d8, by omega, by go_num, by rw [hsame.out, List.length_append]; rw [hj'.out]; rfl, by rw [hsame.out]; exact hO8, hk8⟩, by simp [intOf]; omega⟩
      · have e1 : (q.head == h) = false := by simp [a1]
        have a1' := Lib.hid a1; clear a1
        go_upto_region 7 with fail
        refine wp_region_noPanic ?_
        refine wp_region_held_drew (S := (fun W => Keeps (fun _ => False) wr W)) (by kernel_rfl) (((Keeps.refl _ _).drew)) (fun hHeld => ?_)
        refine tk 0 rfl ?_
        refine tk 1 rfl ?_
        refine tk 2 rfl ?_
        refine tk 3 rfl ?_
        refine tkL 4 rfl (yieldsIf_load_cell (by rfl) 3 (.tmp 23) rfl g (o + k * 4 + 0) rfl _ (fun _ s => s.rangeAt hrow.out id 0 _ rfl) (fun w s => load_int w _ _ _ s)) ?_
        refine tk 5 rfl ?_
        refine tk 6 rfl ?_
        refine tk 7 rfl ?_
        refine tkS 8 rfl ?_
        refine tkS 9 rfl ?_
        refine tkS 10 rfl ?_
        refine tkS 11 rfl ?_
        refine tkS 12 rfl ?_
        refine tkS 13 rfl ?_
        refine tkS 14 rfl ?_
        refine tkS 15 rfl ?_
        refine tkS 16 rfl ?_
        refine tkS 17 rfl ?_
        refine tkS 18 rfl ?_
        refine tkS 19 rfl ?_
        refine tkS 20 rfl ?_
        refine tkS 21 rfl ?_
        refine tkS 22 rfl ?_
        refine tkS 23 rfl ?_
        refine tkS 24 rfl ?_
        refine tk 25 rfl ?_
        refine wpAnyH_done (by kernel_rfl) (NoPanic.normal ?_) _
        have hkk := Lib.hid (hKw.out.trans hHeld)
        have hOk := Lib.hid (hO.out.keep hHeld (fun _ _ f => f))
        have hsame : Hid (nR h ls (k + 1) = D) := Lib.hid (by rw [hstep.out]; unfold stepN; rw [if_neg (fun e => a1'.out e.1)])
        clear hHeld
        go_wp2_with fail
        refine ⟨⟨k + 1, qa, d, by omega, by go_num, by rw [hsame.out], by rw [hsame.out]; exact hOk, hkk⟩, by simp [intOf]; omega⟩
    · obtain rfl : k = ls.length := by omega
      have hfin := Lib.hid (k2'.out.trans hKw.out)
      have hO' := Lib.hid (hO.out.older (w0 := w) k2'.out.size)
      clear hnl hO hKw
      go_wp2_with fail
      go_ret
      show NamesPost (nR h ls ls.length) w _ _
      rw [hnk'.out]
      exact ⟨qa, d, rfl, hO'.out, hfin.out⟩
end Go.Proofs.Ythofplmjlfhloaa
/- Both Names are the same, plain. -/
set_option linter.unusedVariables false
set_option linter.unusedSimpArgs false
namespace Go.Proofs.Ythofplmjlfhloaa
open Go.RowKit

theorem less_head {a b : LineD} (h : lessB a b = true) : a.head ≤ b.head := by
  rw [lessB_iff] at h
  rcases h with h | ⟨h, _⟩ <;> omega
theorem names_both (h : Int) {ls : List LineD} (hr : rises ls) : ∀ k, k ≤ ls.length → nR h ls k = namesFrom h none (ls.take k) ∧
    (k = 0 → nR h ls k = []) ∧ ∀ j p, k = j + 1 → ls[j]? = some p → (p.head = h → (nR h ls k).getLast? = some p.name) ∧ (p.head < h → nR h ls k = []) := by
  intro k
  induction k with
  | zero => intro _; exact ⟨rfl, fun _ => rfl, fun j p e => by omega⟩
  | succ k ih =>
    intro hk
    obtain ⟨i1, i2, i3⟩ := ih (by omega)
    obtain ⟨q, hq⟩ : ∃ q, ls[k]? = some q := ⟨_, List.getElem?_eq_getElem (by omega)⟩
    have hs1 := nR_step (h := h) hq
    have hs2 := names_step (h := h) hq
    generalize nR h ls k = o at i1 i2 i3 hs1
    generalize nR h ls (k + 1) = o2 at hs1 ⊢
    subst hs1
    -- are both of one mind?
    have hmind : q.head = h → (newName h (prevOf ls k) q = true ↔ o.getLast? ≠ some q.name) := fun hh => by
      cases k with
      | zero =>
        have ho := i2 rfl
        subst ho
        simp [newName, prevOf, hh]
      | succ j =>
        obtain ⟨p, hp⟩ : ∃ p, ls[j]? = some p := ⟨_, List.getElem?_eq_getElem (by omega)⟩
        obtain ⟨j1, j2⟩ := i3 j p rfl hp
        have hle := less_head (rises_at hr j p q hp hq)
        have hpv : prevOf ls (j + 1) = some p := hp
        rw [hpv]
        by_cases e : p.head = h
        · rw [j1 e]
          unfold newName
          simp [hh, e]
        · have ho := j2 (by omega)
          subst ho
          unfold newName
          simp [hh, e]
    refine ⟨?_, fun e => by omega, fun j p e hp => ?_⟩
    · rw [hs2, ← i1]
      unfold stepN
      by_cases hh : q.head = h
      · by_cases hm : o.getLast? = some q.name
        · rw [if_neg (fun e => e.2 hm), if_neg (fun e => ((hmind hh).1 e) hm), List.append_nil]
        · rw [if_pos ⟨hh, hm⟩, if_pos ((hmind hh).2 hm)]
      · rw [if_neg (fun e => hh e.1), if_neg (by unfold newName; simp [hh]), List.append_nil]
    · obtain rfl : k = j := by omega
      rw [hq] at hp; injection hp with hp; subst hp
      unfold stepN
      refine ⟨fun hh => ?_, fun hlt => ?_⟩
      · by_cases hm : o.getLast? = some q.name
        · rw [if_neg (fun e => e.2 hm)]; exact hm
        · rw [if_pos ⟨hh, hm⟩]; simp
      · rw [if_neg (fun e => by have := e.1; omega)]
        cases k with
        | zero => exact i2 rfl
        | succ i =>
          obtain ⟨p, hp⟩ : ∃ p, ls[i]? = some p := ⟨_, List.getElem?_eq_getElem (by omega)⟩
          have hle := less_head (rises_at hr i p q hp hq)
          exact (i3 i p rfl hp).2 (by omega)
theorem names_same (h : Int) {ls : List LineD} (hr : rises ls) : nR h ls ls.length = namesFrom h none ls := by
  have := (names_both h hr ls.length (Nat.le_refl _)).1
  rwa [List.take_length] at this
end Go.Proofs.Ythofplmjlfhloaa
/- Names of a right configuration, both sides (gen_run.py: the last part of CHA, for a seat without Set). -/
set_option linter.unusedVariables false
set_option linter.unusedSimpArgs false
namespace Go.Proofs.Ythofplmjlfhloaa
open Go.RowKit

def namesA (h : Int) (ls : List LineD) : List (List UInt8) := if h = 0 then [] else namesFrom h none ls
theorem namesA_len (h : Int) (ls : List LineD) : (namesA h ls).length ≤ ls.length := by
  unfold namesA
  split
  · simp
  · exact names_len_le h ls none
def NamesP (xs : List (List UInt8)) (w : World) (e : Ending) (w' : World) : Prop :=
  ∃ p c, e = .returned (.slice p xs.length c) ∧ StrsAt w' (.slice p xs.length c) xs ∧ Keeps (fun _ => False) w w'
theorem rows_strs {w : World} {v : Value} {xs : List (List UInt8)} (h : RowsAt 1 nv1 w v xs) : StrsAt w v xs := by
  obtain ⟨p, c, rfl, -, -, hr⟩ := h
  refine ⟨p, c, rfl, fun h0 => ?_⟩
  obtain ⟨g, o, rfl, hr2⟩ := hr h0
  refine ⟨g, o, rfl, fun j u hu => ?_⟩
  rw [List.getElem?_map] at hu
  cases hx : xs[j]? with
  | none => rw [hx] at hu; cases hu
  | some x =>
    rw [hx] at hu
    injection hu with hu
    have := hr2 j x hx 0 u (by rw [← hu]; rfl)
    rw [Nat.mul_one, Nat.add_zero] at this
    exact this
theorem nv1_len (x : List UInt8) : (nv1 x).length = 1 := rfl

set_option maxRecDepth 100000 in
set_option maxHeartbeats 2000000 in
theorem names_all (v : Value) (ls : List LineD) (h : Int) (w : World) (hv : Hid (RowsAt 4 lineVals w v ls)) (hr : Hid (rightC ls = true)) :
    Calls Try.prog 18 #[v, .int .i64 h] w (NamesP (namesA h ls) w) := by
  by_cases h0 : h = 0
  · subst h0
    have e : namesA 0 ls = [] := rfl
    rw [e]
    obtain ⟨p, c, rfl⟩ := hv.out.slice
    go_enter Try.func18, Try.ntmps18
    go_wp2_with fail
    go_ret
    exact ⟨none, 0, rfl, ⟨none, 0, rfl, fun h => absurd h (by simp)⟩, Keeps.refl _ _⟩
  · have e : namesA h ls = namesFrom h none ls := if_neg h0
    rw [e]
    refine (names_any v ls h w hv (right_len hr.out) (Lib.hid (right_lt hr.out 9223372036854775807 (by omega))) hr h0).mono ?_
    rintro e w2 ⟨p, c, rfl, hO, k⟩
    exact ⟨p, c, rfl, rows_strs (hO.at nv1_len), k⟩
set_option maxRecDepth 100000 in
set_option maxHeartbeats 2000000 in
theorem rNames_all (v : Value) (ls : List LineD) (h : Int) (w : World) (hv : Hid (RowsAt 4 lineVals w v ls)) (hr : Hid (rightC ls = true)) :
    Calls Try.prog 27 #[v, .int .i64 h] w (NamesP (namesA h ls) w) := by
  by_cases h0 : h = 0
  · subst h0
    have e : namesA 0 ls = [] := rfl
    rw [e]
    obtain ⟨p, c, rfl⟩ := hv.out.slice
    have hLn := Lib.hid hv.out.lines
    have hlen := right_len hr.out
    have hlt := Lib.hid (right_lt hr.out 8796093022000 (by omega))
    go_enter Try.func27, Try.ntmps27
    go_wp2_with fail
    refine (rRight_c _ ls true _ hLn (by omega) hlt hr).mono ?_
    rintro e w2 ⟨rfl, k2⟩
    have k2' := Lib.hid k2; clear k2
    go_wp2_with fail
    go_ret
    exact ⟨none, 0, rfl, ⟨none, 0, rfl, fun h => absurd h (by simp)⟩, k2'.out⟩
  · have e : namesA h ls = nR h ls ls.length := (if_neg h0).trans (names_same h (right_rises hr.out)).symm
    rw [e]
    refine (rNames_c v ls h w hv hr h0).mono ?_
    rintro e w2 ⟨p, c, rfl, hO, k⟩
    exact ⟨p, c, rfl, rows_strs (hO.at nv1_len), k⟩
end Go.Proofs.Ythofplmjlfhloaa
/- Faults of a configuration: plain; rules.values, unset, router, tooMany, walked. -/
set_option linter.unusedVariables false
set_option linter.unusedSimpArgs false
namespace Go.Proofs.Ythofplmjlfhloaa
open Go.RowKit

structure FaultD where
  kind : Int
  name : List UInt8
def fVals (f : FaultD) : List Value := [.int .i64 f.kind, strv f.name]
theorem fVals_len (f : FaultD) : (fVals f).length = 2 := rfl
theorem fVals_one (f : FaultD) : ∀ u ∈ fVals f, u.oneCell' = true := by
  intro u hu
  simp only [fVals, List.mem_cons, List.not_mem_nil, or_false] at hu
  rcases hu with rfl | rfl <;> rfl
theorem faultInfo : (Try.prog.info? 41).map (·.size) = some 2 := by kernel_rfl
theorem faultAll : ∃ i, Try.prog.info? 41 = some i ∧ i.zero = some (.agg #[.int .i64 0, .string ⟨#[]⟩]) ∧ i.size = 2 ∧ i.bytes = 24 := by
  have h : (Try.prog.info? 41).map (fun i => (i.zero, i.size, i.bytes)) = some (some (.agg #[.int .i64 0, .string ⟨#[]⟩]), 2, 24) := by kernel_rfl
  obtain ⟨i, hi, e⟩ := Option.map_eq_some_iff.1 h
  injection e with e1 e; injection e with e2 e3
  exact ⟨i, hi, e1, e2, e3⟩
/-- faults of the call's own -/
def FRes (fs : List FaultD) (w : World) (e : Ending) (w' : World) : Prop :=
  ∃ p c, e = .returned (.slice p fs.length c) ∧ OwnR 41 2 fVals w w' (.slice p fs.length c) fs ∧ Keeps (fun _ => False) w w'
/-- texts of the call's own -/
def SRes (xs : List (List UInt8)) (w : World) (e : Ending) (w' : World) : Prop :=
  ∃ p c, e = .returned (.slice p xs.length c) ∧ OwnR 9 1 nv1 w w' (.slice p xs.length c) xs ∧ Keeps (fun _ => False) w w'
def routerW : List UInt8 := [114, 111, 117, 116, 101, 114, 45, 105, 100]
def boneW : List UInt8 := [48, 46, 48, 46, 48, 46, 48]
def valuesC (ls : List LineD) (names : List (List UInt8)) (leaf : List UInt8) : List (List UInt8) := names.map (fun n => valueR ls 2 n leaf)
def unsetC (kind : Int) (names vals : List (List UInt8)) : List FaultD := (names.zip vals).flatMap (fun p => if p.2 = [] then [⟨kind, p.1⟩] else [])
def tooManyC (names : List (List UInt8)) : List FaultD := if 8 < names.length then [⟨8, []⟩] else []
def routerC (ls : List LineD) (names : List (List UInt8)) : List FaultD :=
  if 0 < names.length ∧ (valueR ls 0 [] routerW = [] ∨ valueR ls 0 [] routerW = boneW) then [⟨1, []⟩] else []
theorem strs_get {w : World} {p : Option Addr} {n c : Nat} {xs : List (List UInt8)} (h : StrsAt w (.slice p n c) xs) {k : Nat} {x : List UInt8} (hk : xs[k]? = some x) : ∃ g o, p = some ⟨g, o, none⟩ ∧ w.cell? ⟨g, o + k, none⟩ = some (.string ⟨x.toArray⟩) := by
  obtain ⟨p', c', e, hr⟩ := h
  injection e with e1 e2 e3
  subst e1
  obtain ⟨g, o, rfl, hr2⟩ := hr (by have := (List.getElem?_eq_some_iff.1 hk).1; omega)
  refine ⟨g, o, rfl, ?_⟩
  have := hr2 k (strv x) (by rw [List.getElem?_map, hk]; rfl)
  exact this
theorem strs_slice {w : World} {v : Value} {xs : List (List UInt8)} (h : StrsAt w v xs) : ∃ p c, v = .slice p xs.length c := by
  obtain ⟨p, c, e, _⟩ := h; exact ⟨p, c, e⟩

set_option maxRecDepth 100000 in
set_option maxHeartbeats 4000000 in
theorem ruValues_any (v nv : Value) (ls : List LineD) (names : List (List UInt8)) (L : ByteArray) (w : World) (hv : Hid (RowsAt 4 lineVals w v ls)) (hr : Hid (rightC ls = true)) (hn : Hid (StrsAt w nv names)) (hl : names.length ≤ 64) :
    Calls Try.prog 19 #[v, nv, .string L] w (SRes (valuesC ls names L.data.toList) w) := by
  obtain ⟨i0, hi0, hi1, hi2, hi3⟩ := strAll
  obtain ⟨p, c, rfl⟩ := strs_slice hn.out
  go_enter Try.func19, Try.ntmps19
  go_wp2_with fail
  go_loopw [12, 7] (fun iv ov wr => ∃ (k : Nat) (xs : List (List UInt8)) (q : Option Addr) (d : Nat), k ≤ names.length ∧ iv = .int .i64 k ∧ ov = .slice q xs.length d ∧ xs.length ≤ k ∧ Hid (xs = valuesC ls (names.take k) L.data.toList) ∧ Hid (OwnR 9 1 nv1 w wr ov xs) ∧ Hid (Keeps (fun _ => False) w wr)) (fun iv _ _ => names.length - (intOf iv).toNat)
  case atStart => exact ⟨0, [], none, 0, by omega, rfl, rfl, by simp, Lib.hid rfl, Lib.hid (OwnR.nil _ _ (Nat.le_refl _)), Lib.hid (Keeps.refl _ _)⟩
  case round =>
    obtain ⟨k, xs, q, d, hk, rfl, rfl, hxl, hxs, hO, hK⟩ := hrel
    by_cases hlk : k < names.length
    · obtain ⟨x, hx⟩ : ∃ x, names[k]? = some x := ⟨_, List.getElem?_eq_getElem hlk⟩
      obtain ⟨g, o, rfl, hc⟩ := strs_get hn.out hx
      obtain ⟨X, hX⟩ : ∃ X : ByteArray, X = ⟨x.toArray⟩ := ⟨_, rfl⟩
      have c0 : wr.cell? ⟨g, o + k, none⟩ = some (.string X) := by rw [hX]; exact (hK.out.cell (p := ⟨g, o + k, none⟩) (World.block_lt_of_cell? w _ hc) id).trans hc
      obtain ⟨V, hV⟩ : ∃ V : ByteArray, V = ⟨(valueR ls 2 X.data.toList L.data.toList).toArray⟩ := ⟨_, rfl⟩
      have hV' := Lib.hid hV
      have m1 : (k : Int) < (names.length : Int) := by omega
      have m2 : (0 : Int) ≤ (k : Int) := by omega
      have hnext : Hid (xs ++ [V.data.toList] = valuesC ls (names.take (k + 1)) L.data.toList) := Lib.hid (by
        unfold valuesC
        rw [List.take_add_one, hx, List.map_append, hxs.out, hV]
        unfold valuesC
        rw [hX]; rfl)
      have hvr := Lib.hid (hv.out.keep hK.out)
      clear hc hX hV hx
      go_wp2_with fail
      refine (value_any _ ls 2 X L V _ hvr hr hV').mono ?_
      rintro e w5 ⟨rfl, k5⟩
      have hK5 := Lib.hid (hK.out.trans k5)
      have hO5 := Lib.hid (hO.out.keep k5 (fun _ _ f => f))
      clear k5 c0 hvr hO hK
      go_wp2_with ((with_reducible refine at_slot 22 ?_); go_must (refine wpList_append_r rfl (.tmp 16) (.tmp 21) 51 9 rfl i0 _ 16 Try.underlying51 hi0 hi1 hi2 hi3 rfl (by decide) (by decide) (fun _ => rfl) w _ xs.length xs rfl rfl (hO5.out.keep ((Keeps.refl (fun _ => False) _).alloc _) (fun _ _ f => f)) _ rfl V.data.toList (cells_new rfl [.string V] _) (fun u hu => (by simp [nv1] at hu; subst hu; rfl)) (by omega) ?_); intro q8 d8 w8 hO8 hg8)
      have hk8 := Lib.hid ((hO5.out.keep ((Keeps.refl (fun _ => False) w5).alloc (.cells #[.string V] 9)) (fun _ _ f => f)).keeps (hK5.out.alloc _) hg8.out)
      exact ⟨⟨k + 1, xs ++ [V.data.toList], q8, d8, by omega, by go_num, by simp, by simp; omega, hnext, by simpa using hO8, hk8⟩, by simp [intOf]; omega⟩
    · obtain rfl : k = names.length := by omega
      have hx2 := Lib.hid (hxs.out.trans (by rw [List.take_length]))
      clear hxs
      go_wp2_with fail
      go_ret
      refine ⟨q, d, ?_, ?_, hK.out⟩
      · rw [← hx2.out]; rfl
      · rw [← hx2.out]; exact hO.out
end Go.Proofs.Ythofplmjlfhloaa
/- rules.unset, tooMany, router, unused, parted, walked (gen_rub.py). -/
set_option linter.unusedVariables false
set_option linter.unusedSimpArgs false
namespace Go.Proofs.Ythofplmjlfhloaa
open Go.RowKit

theorem nil_yes {a : ByteArray} (h : a.data.toList = []) : a.toList.isEmpty = true ∧ (a.toList == []) = true ∧ (a.toList != []) = false := by rw [Lib.toList_data, h]; exact ⟨rfl, rfl, rfl⟩
theorem nil_no {a : ByteArray} (h : a.data.toList ≠ []) : a.toList.isEmpty = false ∧ (a.toList == []) = false ∧ (a.toList != []) = true := by
  rw [Lib.toList_data]
  cases hh : a.data.toList with
  | nil => exact absurd hh h
  | cons => exact ⟨rfl, rfl, rfl⟩
theorem ba_eqr (X : ByteArray) (l : List UInt8) : (X.toList == l) = decide (X.data.toList = l) := by
  rw [Lib.toList_data]
  by_cases h : X.data.toList = l
  · rw [h]; simp
  · simp [h]
theorem zip_take {α β : Type} : ∀ (xs : List α) (ys : List β) (k : Nat), (xs.take k).zip (ys.take k) = (xs.zip ys).take k := by
  intro xs
  induction xs with
  | nil => intro ys k; simp
  | cons x xs ih =>
    intro ys k
    cases ys with
    | nil => simp
    | cons y ys =>
      cases k with
      | zero => simp
      | succ k => simp [ih]
theorem unset_step {kind : Int} {names vals : List (List UInt8)} {k : Nat} {x y : List UInt8} (hx : names[k]? = some x) (hy : vals[k]? = some y) :
    unsetC kind (names.take (k + 1)) (vals.take (k + 1)) = unsetC kind (names.take k) (vals.take k) ++ (if y = [] then [⟨kind, x⟩] else []) := by
  unfold unsetC
  have hz : (names.zip vals)[k]? = some (x, y) := by rw [List.getElem?_zip_eq_some]; exact ⟨hx, hy⟩
  rw [zip_take, zip_take, List.take_add_one, hz]
  simp
def unusedC (ls : List LineD) (areas : List (List UInt8)) : List FaultD := (namesA 1 ls).flatMap (fun n => if areas.contains n = true then [] else [⟨7, n⟩])

set_option maxRecDepth 100000 in
set_option maxHeartbeats 4000000 in
theorem ruUnset_any (kind : Int) (nv vv : Value) (names vals : List (List UInt8)) (w : World) (hn : Hid (StrsAt w nv names)) (hv : Hid (StrsAt w vv vals)) (hle : Hid (vals.length = names.length)) (hl : names.length ≤ 64) :
    Calls Try.prog 21 #[.int .i64 kind, nv, vv] w (FRes (unsetC kind names vals) w) := by
  obtain ⟨i0, hi0, hi1, hi2, hi3⟩ := faultAll
  obtain ⟨p, c, rfl⟩ := strs_slice hn.out
  obtain ⟨p2, c2, rfl⟩ := strs_slice hv.out
  go_enter Try.func21, Try.ntmps21
  go_wp2_with fail
  go_loopw [12, 7] (fun iv ov wr => ∃ (k : Nat) (fs : List FaultD) (q : Option Addr) (d : Nat), k ≤ names.length ∧ iv = .int .i64 k ∧ ov = .slice q fs.length d ∧ fs.length ≤ k ∧ Hid (fs = unsetC kind (names.take k) (vals.take k)) ∧ Hid (OwnR 41 2 fVals w wr ov fs) ∧ Hid (Keeps (fun _ => False) w wr)) (fun iv _ _ => names.length - (intOf iv).toNat)
  case atStart => exact ⟨0, [], none, 0, by omega, rfl, rfl, by simp, Lib.hid rfl, Lib.hid (OwnR.nil _ _ (Nat.le_refl _)), Lib.hid (Keeps.refl _ _)⟩
  case round =>
    obtain ⟨k, fs, q, d, hk, rfl, rfl, hfl, hfs, hO, hK⟩ := hrel
    by_cases hlk : k < names.length
    · have hkv : k < vals.length := by rw [hle.out]; exact hlk
      obtain ⟨x, hx⟩ : ∃ x, names[k]? = some x := ⟨_, List.getElem?_eq_getElem hlk⟩
      obtain ⟨y, hy⟩ : ∃ x, vals[k]? = some x := ⟨_, List.getElem?_eq_getElem hkv⟩
      obtain ⟨g, o, rfl, hc⟩ := strs_get hn.out hx
      obtain ⟨g2, o2, rfl, hc2⟩ := strs_get hv.out hy
      obtain ⟨X, hX⟩ : ∃ X : ByteArray, X = ⟨x.toArray⟩ := ⟨_, rfl⟩
      obtain ⟨Y, hY⟩ : ∃ X : ByteArray, X = ⟨y.toArray⟩ := ⟨_, rfl⟩
      have c0 : wr.cell? ⟨g, o + k, none⟩ = some (.string X) := by rw [hX]; exact (hK.out.cell (p := ⟨g, o + k, none⟩) (World.block_lt_of_cell? w _ hc) id).trans hc
      have c1 : wr.cell? ⟨g2, o2 + k, none⟩ = some (.string Y) := by rw [hY]; exact (hK.out.cell (p := ⟨g2, o2 + k, none⟩) (World.block_lt_of_cell? w _ hc2) id).trans hc2
      have hstep := Lib.hid (unset_step (kind := kind) hx hy)
      rw [← hfs.out] at hstep
      have m1 : (k : Int) < (names.length : Int) := by omega
      have m2 : (0 : Int) ≤ (k : Int) := by omega
      have m3 : (k : Int) < (vals.length : Int) := by omega
      have hXd : Hid (X.data.toList = x) := Lib.hid (by rw [hX])
      have hYd : Hid (Y.data.toList = y) := Lib.hid (by rw [hY])
      clear hc hc2 hX hY hx hy
      by_cases hy0 : y = []
      · obtain ⟨e1, e2, e3⟩ := nil_yes (hYd.out.trans hy0)
        rw [if_pos hy0, ← hXd.out] at hstep
        clear hy0
        go_wp2_with ((with_reducible refine at_slot 27 ?_); go_must (refine wpList_append_r rfl (.tmp 22) (.tmp 26) 24 41 rfl i0 _ 24 Try.underlying24 hi0 hi1 hi2 hi3 rfl (by decide) (by decide) fVals_len w _ fs.length fs rfl rfl (hO.out.keep ((Keeps.refl (fun _ => False) _).alloc _) (fun _ _ f => f)) _ rfl ⟨kind, X.data.toList⟩ (cells_new rfl [.int .i64 (kind), .string X] _) (fVals_one _) (by omega) ?_); intro q8 d8 w8 hO8 hg8)
        have hk8 := Lib.hid ((hO.out.keep ((Keeps.refl (fun _ => False) wr).alloc (.cells #[.int .i64 kind, .string X] 41)) (fun _ _ f => f)).keeps (hK.out.alloc _) hg8.out)
        exact ⟨⟨k + 1, fs ++ [⟨kind, X.data.toList⟩], q8, d8, by omega, by go_num, by simp, by simp; omega, Lib.hid hstep.out.symm, by simpa using hO8, hk8⟩, by simp [intOf]; omega⟩
      · obtain ⟨e1, e2, e3⟩ := nil_no (a := Y) (by rw [hYd.out]; exact hy0)
        rw [if_neg hy0, List.append_nil] at hstep
        clear hy0
        go_wp2_with fail
        exact ⟨⟨k + 1, fs, q, d, by omega, by go_num, rfl, by omega, Lib.hid hstep.out.symm, hO, hK⟩, by simp [intOf]; omega⟩
    · obtain rfl : k = names.length := by omega
      have hx2 := Lib.hid (hfs.out.trans (by rw [List.take_length, List.take_of_length_le (by rw [hle.out]; exact Nat.le_refl _)]))
      clear hfs
      go_wp2_with fail
      go_ret
      refine ⟨q, d, ?_, ?_, hK.out⟩
      · rw [← hx2.out]; rfl
      · rw [← hx2.out]; exact hO.out
/-- a fault alone, in a new block -/
theorem own_new (w : World) (f : FaultD) : OwnR 41 2 fVals w (w.alloc (.cells (fVals f).toArray 41)) (.slice (some ⟨w.heap.size, 0, none⟩) 1 1) [f] := by
  refine ⟨⟨by simp [rowCells, fVals], .inr ⟨w.heap.size, 1, (fVals f).toArray, rfl, Nat.zero_le _, heap_alloc_last w _, by simp, by unfold maxLen; simp, by simp [fVals], by simp [rowCells, fVals]⟩⟩, fun k e => by simp [Value.ownBlock] at e; omega, ((Keeps.refl (fun _ => False) w).alloc _).size⟩
set_option maxRecDepth 100000 in
set_option maxHeartbeats 2000000 in
theorem ruTooMany_any (nv : Value) (names : List (List UInt8)) (w : World) (hn : Hid (StrsAt w nv names)) (hl : names.length ≤ 64) :
    Calls Try.prog 26 #[nv] w (FRes (tooManyC names) w) := by
  obtain ⟨p, c, rfl⟩ := strs_slice hn.out
  unfold tooManyC
  by_cases h : 8 < names.length
  · rw [if_pos h]
    have m : (8 : Int) < (names.length : Int) := by omega
    go_enter Try.func26, Try.ntmps26
    go_wp2_with fail
    go_ret
    exact ⟨_, _, rfl, own_new w ⟨8, []⟩, (Keeps.refl _ _).alloc _⟩
  · rw [if_neg h]
    have m : ¬ (8 : Int) < (names.length : Int) := by omega
    go_enter Try.func26, Try.ntmps26
    go_wp2_with fail
    go_ret
    exact ⟨none, 0, rfl, OwnR.nil _ _ (Nat.le_refl _), Keeps.refl _ _⟩
end Go.Proofs.Ythofplmjlfhloaa
