/- The law's same: has a Db just these (gen_lmf.py writes this). -/
import Derived.Test.YtdaongflpllfhaaLS21
import Derived.Test.YtdaongflpllfhaaLS22
import Derived.Test.YtdaongflpllfhaaLS18
import Derived.Test.YtdaongflpllfhaaLS09
import Derived.ProofKit
import Derived.OpenShut
import Derived.SizedLaws
import Derived.Deep.Grids
import Derived.Deep.Slices
import Derived.Test.YtdaongflpllfhaaLS10
import Derived.Lib.Bytealg
import Derived.Laws.Externs
set_option linter.unusedVariables false
set_option linter.unusedSimpArgs false
set_option linter.unusedVariables false
set_option linter.unusedSimpArgs false
namespace Go.Proofs.Ytdaongflpllfhaa
open Go.RowKit

@[go_sem] theorem guardHeadL (op : BinOp) (x y : Operand) (xs ys : Array Value) (w : World) : (eqGuard op 82 x y (.agg xs) (.agg ys)).run Try.prog w = .ok () w := run_eqGuard_agg w op 82 x y xs ys (by kernel_rfl)
theorem ne_headL (H : HeadD) (w : World) : (binOp .neq 82 (.agg #[.int .i64 H.age, .int .i64 H.type, .int .u32 H.id, .int .u32 H.adv, .int .i64 H.seq, .int .u16 H.sum, .int .i64 H.len]) (.agg #[.int .i64 H.age, .int .i64 H.type, .int .u32 H.id, .int .u32 H.adv, .int .i64 H.seq, .int .u16 H.sum, .int .i64 H.len])).run Try.prog w = .ok (.bool false) w := by go_simp
theorem yieldsIf_neH {ops : Array Oper} {S : World → Prop} {op : Oper} {a : Act} (hw : Region.wanted op (yielded ops a.tmps) = true) (x y : Operand) (t2 : TypeId) (ho : op.op = .binOp .neq 82 x y t2) (H : HeadD)
    (hx : a.eval x = .agg #[.int .i64 H.age, .int .i64 H.type, .int .u32 H.id, .int .u32 H.adv, .int .i64 H.seq, .int .u16 H.sum, .int .i64 H.len]) (hy : a.eval y = .agg #[.int .i64 H.age, .int .i64 H.type, .int .u32 H.id, .int .u32 H.adv, .int .i64 H.seq, .int .u16 H.sum, .int .i64 H.len]) : YieldsIf Try.prog ops S op (.bool false) a :=
  .inl ⟨hw, fun w hw' => by
    unfold execOp
    simp only [ho, hx, hy, Sem.run_bind, guardHeadL, ne_headL, Result.andThen_ok]
    rfl⟩
theorem sameB_self (d : LsaD) : sameB d d = true := by unfold sameB; rw [alikeB_self]; simp
set_option maxRecDepth 100000 in
set_option maxHeartbeats 8000000 in
theorem lwSame_any (b r N : Nat) (ms : List LsaM) (v : Value) (hF : Hid (FineL (ms.map (·.d)))) (w : World) (hD : Hid (DbL w b r N (ms.map (·.d)))) (hv : Hid (RowsAt 9 lsaRow w v ms)) (hL : Hid (∀ m ∈ ms, LsaIn w m)) :
    Calls Try.prog 23 #[.pointer (some ⟨b, 0, none⟩), v] w fun e w' => e = .returned (.bool true) ∧ Keeps (fun _ => False) w w' := by
  have hlen : ms.length ≤ 20 := by have := hF.out.few; rw [List.length_map] at this; exact this
  obtain ⟨p, c, e0, hp0, hc0, hr0⟩ := hv.out
  subst e0
  clear hp0 hc0 hr0
  go_enter Try.func23, Try.ntmps23
  go_wp2_with fail
  refine (ldHeads_g b r N (ms.map (·.d)) hF w hD).mono ?_
  rintro e w1 ⟨hv1, rfl, hO, k1⟩
  have hHr := Lib.hid (hO.at headVals_len)
  obtain ⟨hp, hc, rfl⟩ := hO.slice
  rw [List.length_map, List.length_map] at *
  have hK1 := Lib.hid k1
  have hD1 := Lib.hid (hD.out.keep k1)
  clear hO k1
  have z1 : ((ms.length : Int) != (ms.length : Int)) = false := by simp
  go_wp2_with fail
  refine (ldCount_l b r N (ms.map (·.d)) w1 hD1).mono ?_
  rintro e w2 ⟨rfl, rfl⟩
  rw [List.length_map]
  go_wp2_with fail
  go_loopw [6] (fun iv wr => ∃ i : Nat, i ≤ ms.length ∧ iv = .int .i64 i ∧ Hid (Keeps (fun _ => False) w1 wr)) (fun iv _ => ms.length - (intOf iv).toNat)
  case atStart => exact ⟨0, by omega, rfl, Lib.hid (Keeps.refl _ _)⟩
  case round =>
    obtain ⟨i, hi, rfl, hK⟩ := hrel
    by_cases hil : i < ms.length
    · obtain ⟨m, hm⟩ : ∃ m, ms[i]? = some m := ⟨_, List.getElem?_eq_getElem hil⟩
      have hmm := List.mem_of_getElem? hm
      have hKw := hK1.out.trans hK.out
      obtain ⟨g, o, rfl, hr⟩ := RowsAt.open hv.out (by omega)
      obtain ⟨gh, oh, rfl, hrh⟩ := RowsAt.open hHr.out (by rw [List.length_map, List.length_map]; omega)
      obtain ⟨H, hH⟩ : ∃ H, hdD m.d = H := ⟨_, rfl⟩
      have hhr : Hid (wr.rangeAt gh (oh + i * 7) [.int .i64 H.age, .int .i64 H.type, .int .u32 H.id, .int .u32 H.adv, .int .i64 H.seq, .int .u16 H.sum, .int .i64 H.len]) := Lib.hid (hK.out.rangeAt (hrh i H (by rw [List.getElem?_map, List.getElem?_map, hm]; exact congrArg some hH)) (fun f => f))
      have hmr : Hid (wr.rangeAt g (o + i * 9) (lsaRow m)) := Lib.hid (hKw.rangeAt (hr i m hm) (fun f => f))
      have hmk := Lib.hid (row_key hmr.out)
      have hgm : Hid (GoodL m.d) := Lib.hid (hF.out.good m.d (List.mem_map.2 ⟨m, hmm, rfl⟩))
      have hko := Lib.hid hgm.out.k
      have hfind : Hid (mapL (ms.map (·.d)) m.d.type m.d.id m.d.adv = some m.d) := Lib.hid (mapL_mem hF.out.up (List.mem_map.2 ⟨m, hmm, rfl⟩))
      have hI := Lib.hid ((hL.out m hmm).keepC hKw (fun _ _ _ _ _ f => f))
      have hDr := Lib.hid (hD1.out.keep hK.out)
      have hll := canB_lens hgm.out.can
      have hH' := Lib.hid hH
      have m1 : (0 : Int) ≤ (i : Int) := by omega
      have m2 : (i : Int) < (ms.length : Int) := by omega
      obtain ⟨⟨age, type, id, adv, seq, links, mask, routers, cost⟩, p5, c5, p7, c7⟩ := m
      simp only at hmk hko hfind hll
      clear hr hrh hm hmm hH hKw
      go_wp2_with ((with_reducible refine at_slot 36 ?_); refine wpList_load_mid rfl 45 (.tmp 35) rfl g (o + i * 9 + 1) rfl [.int .i64 type, .int .u32 id, .int .u32 adv] _ hmk.out Try.underlying45 rfl r10KeyInfo ?_)
      refine (lwKey_any ⟨type, id, adv⟩ wr).mono ?_
      rintro e w3 ⟨rfl, k3⟩
      have hD3 := Lib.hid (hDr.out.keep k3)
      have k3' := Lib.hid k3
      clear k3
      go_wp2_with fail
      refine (ldFind_g b r N (ms.map (·.d)) (Lib.hid hF.out.good) type id adv hko.out w3 hD3).mono ?_
      rintro e w4 ⟨⟨m4, rfl, hm4, hI4⟩, k4⟩
      rw [hfind.out] at hm4 ⊢
      obtain ⟨d4, q5, d5, q7, d7⟩ := m4
      have hm4 : d4 = ⟨age, type, id, adv, seq, links, mask, routers, cost⟩ := hm4
      subst hm4
      have e4 : (lsaRow ⟨⟨age, type, id, adv, seq, links, mask, routers, cost⟩, q5, d5, q7, d7⟩).toArray = #[.int .i64 age, .int .i64 type, .int .u32 id, .int .u32 adv, .int .i64 seq, .slice q5 links.length d5, .int .u32 mask, .slice q7 routers.length d7, .int .i64 cost] := rfl
      rw [e4]
      have kA := (Keeps.refl (fun _ => False) w4).alloc (.cells #[.int .i64 age, .int .i64 type, .int .u32 id, .int .u32 adv, .int .i64 seq, .slice q5 links.length d5, .int .u32 mask, .slice q7 routers.length d7, .int .i64 cost] 29)
      have hK4 : Hid (Keeps (fun _ => False) wr (w4.alloc (.cells #[.int .i64 age, .int .i64 type, .int .u32 id, .int .u32 adv, .int .i64 seq, .slice q5 links.length d5, .int .u32 mask, .slice q7 routers.length d7, .int .i64 cost] 29))) := Lib.hid ((k3'.out.trans k4).trans kA)
      have hB4 : Hid (BlkAt (w4.alloc (.cells #[.int .i64 age, .int .i64 type, .int .u32 id, .int .u32 adv, .int .i64 seq, .slice q5 links.length d5, .int .u32 mask, .slice q7 routers.length d7, .int .i64 cost] 29)) w4.heap.size 29 [.int .i64 age, .int .i64 type, .int .u32 id, .int .u32 adv, .int .i64 seq, .slice q5 links.length d5, .int .u32 mask, .slice q7 routers.length d7, .int .i64 cost]) := Lib.hid (BlkAt.new w4 29 [.int .i64 age, .int .i64 type, .int .u32 id, .int .u32 adv, .int .i64 seq, .slice q5 links.length d5, .int .u32 mask, .slice q7 routers.length d7, .int .i64 cost])
      have hI4' := Lib.hid (hI4.keepC kA (fun _ _ _ _ _ f => f))
      have hmr4 := Lib.hid (hK4.out.rangeAt hmr.out (fun f => f))
      clear kA hI4 k4 hD3 k3' e4
      simp only [Option.isSome_some]
      go_upto_region 8 with ((with_reducible refine at_store 7 ?_); refine wpList_store_new rfl 29 (.tmp 7) (.tmp 39) rfl _ _ rfl rfl lsaInfo rfl (lsa_one _ _ _ _ _ _ _ _ _ (slice_one _ _ _) (slice_one _ _ _)) ?_)
      obtain ⟨b7, hb7⟩ : ∃ z, w4.heap.size = z := ⟨_, rfl⟩
      rw [hb7] at hB4 ⊢
      generalize hgz : w4.alloc (.cells #[.int .i64 age, .int .i64 type, .int .u32 id, .int .u32 adv, .int .i64 seq, .slice q5 links.length d5, .int .u32 mask, .slice q7 routers.length d7, .int .i64 cost] 29) = W5 at hK4 hB4 hI4' hmr4 ⊢
      clear hgz hb7
      have hI5 := Lib.hid (hI.out.keepC hK4.out (fun _ _ _ _ _ f => f))
      go_wp2_with ((with_reducible refine at_slot 44 ?_); refine wpList_load_mid rfl 48 (.tmp 43) rfl g (o + i * 9) rfl [.int .i64 age, .int .i64 type, .int .u32 id, .int .u32 adv, .int .i64 seq, .slice p5 links.length c5, .int .u32 mask, .slice p7 routers.length c7, .int .i64 cost] _ hmr4.out Try.underlying48 rfl lsaInfoR ?_)
      refine (r12Head_any ⟨⟨age, type, id, adv, seq, links, mask, routers, cost⟩, p5, c5, p7, c7⟩ hgm W5 hI5).mono ?_
      rintro e w6 ⟨rfl, k6⟩
      rw [hH'.out]
      unfold headV
      have kB := (Keeps.refl (fun _ => False) w6).alloc (.cells #[.int .i64 H.age, .int .i64 H.type, .int .u32 H.id, .int .u32 H.adv, .int .i64 H.seq, .int .u16 H.sum, .int .i64 H.len] 95)
      have hK6 : Hid (Keeps (fun _ => False) wr (w6.alloc (.cells #[.int .i64 H.age, .int .i64 H.type, .int .u32 H.id, .int .u32 H.adv, .int .i64 H.seq, .int .u16 H.sum, .int .i64 H.len] 95))) := Lib.hid ((hK4.out.trans k6).trans kB)
      have hBh : Hid (BlkAt (w6.alloc (.cells #[.int .i64 H.age, .int .i64 H.type, .int .u32 H.id, .int .u32 H.adv, .int .i64 H.seq, .int .u16 H.sum, .int .i64 H.len] 95)) w6.heap.size 95 [.int .i64 H.age, .int .i64 H.type, .int .u32 H.id, .int .u32 H.adv, .int .i64 H.seq, .int .u16 H.sum, .int .i64 H.len]) := Lib.hid (BlkAt.new w6 95 [.int .i64 H.age, .int .i64 H.type, .int .u32 H.id, .int .u32 H.adv, .int .i64 H.seq, .int .u16 H.sum, .int .i64 H.len])
      have hB6 := Lib.hid (hB4.out.keep (k6.trans kB) (fun f => f))
      have hI6 := Lib.hid (hI4'.out.keepC (k6.trans kB) (fun _ _ _ _ _ f => f))
      clear kB k6 hmr4 hI5 hB4 hI4' hK4
      go_upto_region 9 with ((with_reducible refine at_store 9 ?_); refine wpList_store_new rfl 95 (.tmp 9) (.tmp 45) rfl _ _ rfl rfl r10HeadInfo rfl (head_one _ _ _ _ _ _ _) ?_)
      obtain ⟨b9, hb9⟩ : ∃ z, w6.heap.size = z := ⟨_, rfl⟩
      rw [hb9] at hBh ⊢
      generalize hgz : w6.alloc (.cells #[.int .i64 H.age, .int .i64 H.type, .int .u32 H.id, .int .u32 H.adv, .int .i64 H.seq, .int .u16 H.sum, .int .i64 H.len] 95) = W7 at hK6 hB6 hBh hI6 ⊢
      clear hgz hb9
      have hm7 := Lib.hid (hK6.out.rangeAt hmr.out (fun f => f))
      have hh7 := Lib.hid (hK6.out.rangeAt hhr.out (fun f => f))
      have hI7 := Lib.hid (hI.out.keepC hK6.out (fun _ _ _ _ _ f => f))
      clear hmr hhr hI hmk
      refine wp_region_noPanic ?_
      refine wp_region_held_drew (S := (fun W => Keeps (fun _ => False) W7 W)) (by kernel_rfl) (((Keeps.refl (fun _ => False) _).drew)) (fun hHeld => ?_)
      refine tk 0 rfl ?_
      refine tk 1 rfl ?_
      refine tk 2 rfl ?_
      refine tkL 3 rfl (yieldsIf_load_mid (by rfl) 29 (.tmp 7) rfl b7 0 rfl [.int .i64 age, .int .i64 type, .int .u32 id, .int .u32 adv, .int .i64 seq, .slice q5 links.length d5, .int .u32 mask, .slice q7 routers.length d7, .int .i64 cost] _ (fun _ s => (hB6.out.keep s (fun f => f)).range) Try.underlying29 rfl lsaInfo) ?_
      refine tk 5 rfl ?_
      refine tk 6 rfl ?_
      refine tk 7 rfl ?_
      refine tkL 8 rfl (yieldsIf_load_mid (by rfl) 48 (.tmp 53) rfl g (o + i * 9) rfl [.int .i64 age, .int .i64 type, .int .u32 id, .int .u32 adv, .int .i64 seq, .slice p5 links.length c5, .int .u32 mask, .slice p7 routers.length c7, .int .i64 cost] _ (fun _ s => s.rangeAt hm7.out (fun f => f)) Try.underlying48 rfl lsaInfoR) ?_
      have hI8 := hI6.out.keepC ((Keeps.refl (fun _ => False) W7).drew) (fun _ _ _ _ _ f => f)
      refine stepL 4 rfl (by kernel_rfl) (fun K hK => ?_)
      go_simp
      (refine (lwFrom_any age type seq cost id adv mask links routers q5 q7 d5 d7 _ (Lib.hid hI8.1) (Lib.hid hI8.2) (by omega) (by omega)).mono ?_; rintro e w8 ⟨⟨r5, e5, r7, e7, rfl, hl8, hn8⟩, k8⟩)
      go_wp2_with fail
      refine hK.out _ _ ((hHeld.trans k8)) (fun hHeld => ?_)
      clear hK K
      try simp only [Act.put, sA, sZ, sS]
      have hI9 := hI7.out.keepC hHeld (fun _ _ _ _ _ f => f)
      refine stepL 9 rfl (by kernel_rfl) (fun K hK => ?_)
      go_simp
      (refine (r10Same_any age type seq cost age type seq cost id adv mask id adv mask links links routers routers r5 r7 p5 p7 e5 e7 c5 c7 true _ (by omega) (by omega) (by omega) (by omega) (Lib.hid hl8) (Lib.hid hI9.1) (Lib.hid hn8) (Lib.hid hI9.2) (Lib.hid (sameB_self _))).mono ?_; rintro e w9 ⟨rfl, k9⟩)
      go_wp2_with fail
      refine hK.out _ _ ((hHeld.trans k9)) (fun hHeld => ?_)
      clear hK K
      try simp only [Act.put, sA, sZ, sS]
      refine tk 10 rfl ?_
      refine tk 11 rfl ?_
      refine tk 12 rfl ?_
      refine tk 13 rfl ?_
      refine tk 14 rfl ?_
      refine tk 15 rfl ?_
      refine tkL 16 rfl (yieldsIf_load_mid (by rfl) 82 (.tmp 61) rfl gh (oh + i * 7) rfl [.int .i64 H.age, .int .i64 H.type, .int .u32 H.id, .int .u32 H.adv, .int .i64 H.seq, .int .u16 H.sum, .int .i64 H.len] _ (fun _ s => s.rangeAt hh7.out (fun f => f)) Try.underlying82 rfl headInfo) ?_
      refine tkL 17 rfl (yieldsIf_load_mid (by rfl) 95 (.tmp 9) rfl b9 0 rfl [.int .i64 H.age, .int .i64 H.type, .int .u32 H.id, .int .u32 H.adv, .int .i64 H.seq, .int .u16 H.sum, .int .i64 H.len] _ (fun _ s => (hBh.out.keep s (fun f => f)).range) Try.underlying95 rfl r10HeadInfo) ?_
      refine stepL 18 rfl (by kernel_rfl) (fun K hK => ?_)
      go_simp
      (refine (lwHead_any H.age H.type H.seq H.len H.id H.adv H.sum _).mono ?_; rintro e w10 ⟨rfl, k10⟩)
      go_wp2_with fail
      refine hK.out _ _ ((hHeld.trans k10)) (fun hHeld => ?_)
      clear hK K
      try simp only [Act.put, sA, sZ, sS]
      refine tkL 19 rfl (yieldsIf_neH (by rfl) (.tmp 62) (.tmp 64) _ rfl H rfl rfl) ?_
      refine tk 20 rfl ?_
      refine wpAnyH_done (by kernel_rfl) (NoPanic.normal ?_) _
      have hK10 := Lib.hid (hK.out.trans (hK6.out.trans hHeld))
      clear hHeld
      go_wp2_with fail
      exact ⟨⟨i + 1, by omega, by go_num, hK10⟩, by simp [intOf]; omega⟩
    · obtain rfl : i = ms.length := by omega
      go_wp2_with fail
      go_ret
      exact ⟨rfl, hK1.out.trans hK.out⟩
end Go.Proofs.Ytdaongflpllfhaa
/- An Lsa of the document that came in. -/
namespace Go.Proofs.Ytdaongflpllfhaa
open Go.ChangeShapes Go.WideShapes Go.ChangeAt Go.RowKit Go.Deep
theorem list7 {α : Type} {l : List α} (h : l.length = 7) : ∃ a b c d e f g, l = [a, b, c, d, e, f, g] := by
  match l, h with
  | [a, b, c, d, e, f, g], _ => exact ⟨a, b, c, d, e, f, g, rfl⟩
theorem list3 {α : Type} {l : List α} (h : l.length = 3) : ∃ a b c, l = [a, b, c] := by
  match l, h with
  | [a, b, c], _ => exact ⟨a, b, c, rfl⟩
theorem list4 {α : Type} {l : List α} (h : l.length = 4) : ∃ a b c d, l = [a, b, c, d] := by
  match l, h with
  | [a, b, c, d], _ => exact ⟨a, b, c, d, rfl⟩
theorem list9 {α : Type} {l : List α} (h : l.length = 9) : ∃ a b c d e f g i j, l = [a, b, c, d, e, f, g, i, j] := by
  match l, h with
  | [a, b, c, d, e, f, g, i, j], _ => exact ⟨a, b, c, d, e, f, g, i, j, rfl⟩
theorem cInt : Try.prog.cellsOf 3 = 1 := by kernel_rfl
theorem cU32 : Try.prog.cellsOf 23 = 1 := by kernel_rfl
theorem cKey : Try.prog.cellsOf 45 = 3 := by kernel_rfl
theorem cLink : Try.prog.cellsOf 91 = 4 := by kernel_rfl
theorem cLinks : Try.prog.cellsOf 46 = 1 := by kernel_rfl
theorem cNums : Try.prog.cellsOf 27 = 1 := by kernel_rfl
theorem cLsa : Try.prog.cellsOf 48 = 9 := by kernel_rfl
theorem bLink : Try.prog.bytesOf 91 = 24 := by kernel_rfl
theorem bU32 : Try.prog.bytesOf 23 = 4 := by kernel_rfl
theorem choose_list {α : Type} (n : Nat) (P : Nat → α → Prop) (h : ∀ i, i < n → ∃ a, P i a) : ∃ l : List α, l.length = n ∧ ∀ i a, l[i]? = some a → P i a := by
  induction n with
  | zero => exact ⟨[], rfl, fun i a e => by simp at e⟩
  | succ n ih =>
    obtain ⟨l, hl, hP⟩ := ih (fun i hi => h i (by omega))
    obtain ⟨a, ha⟩ := h n (by omega)
    refine ⟨l ++ [a], by simp [hl], fun i b e => ?_⟩
    by_cases hi : i < l.length
    · rw [List.getElem?_append_left hi] at e; exact hP i b e
    · rw [List.getElem?_append_right (by omega)] at e
      have : i = n := by have := (List.getElem?_eq_some_iff.1 e).1; simp at this; omega
      subst this
      rw [hl, Nat.sub_self] at e
      injection e with e; subst e; exact ha
section
variable {H : Type} {enc : TypeId × Value → H} {W : World}
theorem wf_nat {n : Int} (h : (Lit.int .u32 n).wf = true) : ∃ m : Nat, n = (m : Int) ∧ m < 4294967296 := by
  simp [Lit.wf, IntKind.min, IntKind.max, IntKind.signed, IntKind.bits] at h
  exact ⟨n.toNat, by omega, by omega⟩
theorem wf_int {n : Int} (h : (Lit.int .i64 n).wf = true) : -9223372036854775808 ≤ n ∧ n ≤ 9223372036854775807 := by
  simpa [Lit.wf, IntKind.min, IntKind.max, IntKind.signed, IntKind.bits] using h
theorem link_came {fuel : Nat} {cs : List Value} {x : DataW H × List MemPlace} (hl : cs.length = 4) (h : DataW.trod enc Try.prog W 0 (fun _ => true) true fuel 91 cs = some x) : ∃ l : LinkD, l.ok ∧ cs = linkVals l := by
  obtain ⟨c0, c1, c2, c3, rfl⟩ := list4 hl
  obtain ⟨xs, n, -, -, -, hlen, hf⟩ := DataW.trod_struct Try.underlying91 h
  obtain ⟨y0, y1, y2, y3, rfl⟩ := list4 hlen
  have f0 : DataW.trod enc Try.prog W 0 (fun _ => true) true n 23 ((([c0, c1, c2, c3] : List Value).drop 0).take (Try.prog.cellsOf 23)) = some y0 := hf 0 _ rfl
  rw [cU32] at f0
  have f1 : DataW.trod enc Try.prog W 0 (fun _ => true) true n 23 ((([c0, c1, c2, c3] : List Value).drop 1).take (Try.prog.cellsOf 23)) = some y1 := hf 1 _ rfl
  rw [cU32] at f1
  have f2 : DataW.trod enc Try.prog W 0 (fun _ => true) true n 3 ((([c0, c1, c2, c3] : List Value).drop 2).take (Try.prog.cellsOf 3)) = some y2 := hf 2 _ rfl
  rw [cInt] at f2
  have f3 : DataW.trod enc Try.prog W 0 (fun _ => true) true n 3 ((([c0, c1, c2, c3] : List Value).drop 3).take (Try.prog.cellsOf 3)) = some y3 := hf 3 _ rfl
  rw [cInt] at f3
  obtain ⟨n0, e0, -, w0⟩ := DataW.trod_int Try.underlying23 f0
  obtain ⟨n1, e1, -, w1⟩ := DataW.trod_int Try.underlying23 f1
  obtain ⟨n2, e2, -, w2⟩ := DataW.trod_int Try.underlying3 f2
  obtain ⟨n3, e3, -, w3⟩ := DataW.trod_int Try.underlying3 f3
  injection e0 with e0 _; injection e1 with e1 _; injection e2 with e2 _; injection e3 with e3 _
  subst e0; subst e1; subst e2; subst e3
  obtain ⟨m0, rfl, b0⟩ := wf_nat w0
  obtain ⟨m1, rfl, b1⟩ := wf_nat w1
  exact ⟨⟨m0, m1, n2, n3⟩, ⟨b0, b1, wf_int w2, wf_int w3⟩, rfl⟩
theorem links_came {fuel : Nat} {x0 : Value} {x : DataW H × List MemPlace} (h : DataW.trod enc Try.prog W 0 (fun _ => true) true fuel 46 [x0] = some x) (hs : ∀ n ∈ x.1.weights Try.prog 46, n ≤ reachBytes) :
    ∃ (ls : List LinkD) (p : Option Addr) (c : Nat), x0 = .slice p ls.length c ∧ LinksAt W (.slice p ls.length c) ls ∧ (∀ l ∈ ls, l.ok) ∧ ls.length * 24 ≤ 140737488351232 := by
  rcases Go.Deep.open_slice Try.underlying46 h with ⟨hcs, -⟩ | ⟨a, len, cap, m, n, D, Pl, hcs, -, hlc, hm, hmm, hx, hall⟩
  · injection hcs with hcs _; subst hcs
    exact ⟨[], none, 0, rfl, LinksAt.nil _, by simp, by simp⟩
  · injection hcs with hcs _; subst hcs
    simp only [if_true] at hmm
    subst hmm
    subst hx
    have hw := hs ((len + (m - len)) * 24) (by simp [DataW.weights, Try.underlying46, bLink])
    have hcap : m * 24 ≤ 140737488351232 := by
      have e : len + (m - len) = m := by omega
      rw [e] at hw; exact hw
    have hex : ∀ i, i < len → ∃ l : LinkD, l.ok ∧ ∀ j, j < 4 → W.cell? ((a.add (i * 4)).add j) = (linkVals l)[j]? := fun i hi => by
      obtain ⟨cs', h1, h2⟩ := hall i (by omega)
      rw [cLink] at h1
      obtain ⟨-, hl, hc⟩ := World.cells?_some h1
      obtain ⟨l, hok, rfl⟩ := link_came hl h2
      exact ⟨l, hok, hc⟩
    obtain ⟨ls, hlen, hls⟩ := choose_list len _ hex
    refine ⟨ls, some a, m, by rw [hlen], ⟨some a, m, rfl, (fun e => nomatch e), by rw [hlen]; exact hlc, fun h0 => ?_⟩, ?_, by rw [hlen]; omega⟩
    · obtain ⟨b, o, s⟩ := a
      have h00 := (hls 0 ls[0] (List.getElem?_eq_getElem h0)).2 0 (by omega)
      have hsn : s = none := by simpa [Addr.add] using World.cell?_spot (h00.trans (show (linkVals ls[0])[0]? = some (.int .u32 ls[0].id) from rfl))
      subst hsn
      refine ⟨b, o, rfl, fun i l hl j u hu => ?_⟩
      have hj : j < 4 := by have := (List.getElem?_eq_some_iff.1 hu).1; simpa [linkVals] using this
      have := (hls i l hl).2 j hj
      rw [hu, Addr.add_mid, Addr.add_mid] at this
      exact this
    · intro l hl
      obtain ⟨i, hi, rfl⟩ := List.mem_iff_getElem.1 hl
      exact (hls i _ (List.getElem?_eq_getElem hi)).1
theorem nums_came {fuel : Nat} {x0 : Value} {x : DataW H × List MemPlace} (h : DataW.trod enc Try.prog W 0 (fun _ => true) true fuel 27 [x0] = some x) (hs : ∀ n ∈ x.1.weights Try.prog 27, n ≤ reachBytes) :
    ∃ (ns : List Nat) (p : Option Addr) (c : Nat), x0 = .slice p ns.length c ∧ NumsAt W (.slice p ns.length c) ns ∧ Small ns ∧ ns.length * 4 ≤ 140737488351232 := by
  rcases open_ints Try.underlying27 Try.underlying23 cU32 h with ⟨hcs, -⟩ | ⟨a, len, cap, zs, hcs, -, hlc, hm, hz, hx, hcell, hwf⟩
  · injection hcs with hcs _; subst hcs
    exact ⟨[], none, 0, rfl, NumsAt.nil _, (by intro n hn; simp at hn), by simp⟩
  · injection hcs with hcs _; subst hcs
    simp only [if_true] at hz
    subst hx
    have hw := hs ((len + (cap - len)) * 4) (by simp [DataW.weights, Try.underlying27, bU32, lits]; omega)
    have hcap : cap * 4 ≤ 140737488351232 := by
      have e : len + (cap - len) = cap := by omega
      rw [e] at hw; exact hw
    have hn : ((zs.take len).map Int.toNat).length = len := by simp; omega
    refine ⟨(zs.take len).map Int.toNat, some a, cap, by rw [hn], ⟨some a, cap, by rw [hn], (fun e => nomatch e), by rw [hn]; exact hlc, fun h0 => ?_⟩, ?_, by rw [hn]; omega⟩
    · rw [hn] at h0
      obtain ⟨b, o, s⟩ := a
      have hsn : s = none := by simpa [Addr.add] using World.cell?_spot (hcell 0 (by omega))
      subst hsn
      refine ⟨b, o, rfl, fun j u hu => ?_⟩
      have hj : j < len := by have := (List.getElem?_eq_some_iff.1 hu).1; simp at this; omega
      have hc := hcell j (by omega)
      rw [Addr.add_mid] at hc
      rw [hc]
      have hjz : j < zs.length := by omega
      simp only [List.getElem?_map, List.getElem?_take, hj, if_true, List.getElem?_eq_getElem hjz, Option.map_some, Option.some.injEq] at hu
      rw [← hu]
      have e : zs.getD j 0 = zs[j] := by simp [List.getD, List.getElem?_eq_getElem hjz]
      rw [e]
      obtain ⟨m, hm2, -⟩ := wf_nat (hwf zs[j] (List.getElem_mem hjz))
      unfold nv
      rw [hm2]; simp
    · intro n hn
      obtain ⟨z, hz2, rfl⟩ := List.mem_map.1 hn
      obtain ⟨m, hm2, hlt⟩ := wf_nat (hwf z (List.mem_of_mem_take hz2))
      rw [hm2]; simpa using hlt
set_option maxRecDepth 100000 in
theorem lsa_came {base : Nat} {v : Value} {d : DataW H} {ps : List MemPlace} (hval : Value.okWide Try.prog W .any base 48 v) (h : DataW.Trod enc Try.prog W 0 (fun _ => true) true 48 v d ps) (hs : ∀ n ∈ d.weights Try.prog 48, n ≤ reachBytes) :
    ∃ (age type seq cost : Int) (id adv mask : Nat) (links : List LinkD) (routers : List Nat) (p5 p7 : Option Addr) (c5 c7 : Nat), v = .agg #[.int .i64 age, .int .i64 type, .int .u32 id, .int .u32 adv, .int .i64 seq, .slice p5 links.length c5, .int .u32 mask, .slice p7 routers.length c7, .int .i64 cost] ∧
      LinksAt W (.slice p5 links.length c5) links ∧ NumsAt W (.slice p7 routers.length c7) routers ∧ links.length * 24 ≤ 140737488351232 ∧ routers.length * 4 ≤ 140737488351232 ∧ LsaD.ok ⟨age, type, id, adv, seq, links, mask, routers, cost⟩ := by
  obtain ⟨cs, rfl, hsz⟩ := okWide_struct Try.underlying48 hval
  rw [cLsa] at hsz
  obtain ⟨x0, x1, x2, x3, x4, x5, x6, x7, x8, hcs⟩ := list9 (show cs.toList.length = 9 by simpa using hsz)
  obtain rfl : cs = #[x0, x1, x2, x3, x4, x5, x6, x7, x8] := by rw [← Array.toArray_toList (xs := cs), hcs]
  obtain ⟨fuel, hfu⟩ := h
  obtain ⟨xs, n, -, hx, -, hlen, hf⟩ := DataW.trod_struct Try.underlying48 hfu
  obtain ⟨y0, y1, y2, y3, y4, y5, y6, rfl⟩ := list7 hlen
  injection hx with hd _
  subst hd
  have f0 : DataW.trod enc Try.prog W 0 (fun _ => true) true n 3 ((([x0, x1, x2, x3, x4, x5, x6, x7, x8] : List Value).drop 0).take (Try.prog.cellsOf 3)) = some y0 := hf 0 _ rfl
  rw [cInt] at f0
  have f1 : DataW.trod enc Try.prog W 0 (fun _ => true) true n 45 ((([x0, x1, x2, x3, x4, x5, x6, x7, x8] : List Value).drop 1).take (Try.prog.cellsOf 45)) = some y1 := hf 1 _ rfl
  rw [cKey] at f1
  have f2 : DataW.trod enc Try.prog W 0 (fun _ => true) true n 3 ((([x0, x1, x2, x3, x4, x5, x6, x7, x8] : List Value).drop 4).take (Try.prog.cellsOf 3)) = some y2 := hf 2 _ rfl
  rw [cInt] at f2
  have f3 : DataW.trod enc Try.prog W 0 (fun _ => true) true n 46 ((([x0, x1, x2, x3, x4, x5, x6, x7, x8] : List Value).drop 5).take (Try.prog.cellsOf 46)) = some y3 := hf 3 _ rfl
  rw [cLinks] at f3
  have f4 : DataW.trod enc Try.prog W 0 (fun _ => true) true n 23 ((([x0, x1, x2, x3, x4, x5, x6, x7, x8] : List Value).drop 6).take (Try.prog.cellsOf 23)) = some y4 := hf 4 _ rfl
  rw [cU32] at f4
  have f5 : DataW.trod enc Try.prog W 0 (fun _ => true) true n 27 ((([x0, x1, x2, x3, x4, x5, x6, x7, x8] : List Value).drop 7).take (Try.prog.cellsOf 27)) = some y5 := hf 5 _ rfl
  rw [cNums] at f5
  have f6 : DataW.trod enc Try.prog W 0 (fun _ => true) true n 3 ((([x0, x1, x2, x3, x4, x5, x6, x7, x8] : List Value).drop 8).take (Try.prog.cellsOf 3)) = some y6 := hf 6 _ rfl
  rw [cInt] at f6
  obtain ⟨n0, e0, -, w0⟩ := DataW.trod_int Try.underlying3 f0
  obtain ⟨n2x, e2, -, w2⟩ := DataW.trod_int Try.underlying3 f2
  obtain ⟨n4, e4, -, w4⟩ := DataW.trod_int Try.underlying23 f4
  obtain ⟨n6, e6, -, w6⟩ := DataW.trod_int Try.underlying3 f6
  obtain ⟨zs, n2, -, -, -, hlen2, hk⟩ := DataW.trod_struct Try.underlying45 f1
  obtain ⟨z0, z1, z2, rfl⟩ := list3 hlen2
  have k0 : DataW.trod enc Try.prog W 0 (fun _ => true) true n2 3 ((([x1, x2, x3] : List Value).drop 0).take (Try.prog.cellsOf 3)) = some z0 := hk 0 _ rfl
  rw [cInt] at k0
  have k1 : DataW.trod enc Try.prog W 0 (fun _ => true) true n2 23 ((([x1, x2, x3] : List Value).drop 1).take (Try.prog.cellsOf 23)) = some z1 := hk 1 _ rfl
  rw [cU32] at k1
  have k2 : DataW.trod enc Try.prog W 0 (fun _ => true) true n2 23 ((([x1, x2, x3] : List Value).drop 2).take (Try.prog.cellsOf 23)) = some z2 := hk 2 _ rfl
  rw [cU32] at k2
  obtain ⟨m0, g0, -, u0⟩ := DataW.trod_int Try.underlying3 k0
  obtain ⟨m1, g1, -, u1⟩ := DataW.trod_int Try.underlying23 k1
  obtain ⟨m2, g2, -, u2⟩ := DataW.trod_int Try.underlying23 k2
  injection e0 with e0 _; injection e2 with e2 _; injection e4 with e4 _; injection e6 with e6 _
  injection g0 with g0 _; injection g1 with g1 _; injection g2 with g2 _
  subst e0; subst e2; subst e4; subst e6; subst g0; subst g1; subst g2
  obtain ⟨i1, rfl, b1⟩ := wf_nat u1
  obtain ⟨i2, rfl, b2⟩ := wf_nat u2
  obtain ⟨i4, rfl, b4⟩ := wf_nat w4
  obtain ⟨links, p5, c5, rfl, hL, hlok, hll⟩ := links_came f3 (fun q hq => hs q (by
    simp only [DataW.weights, Try.underlying48]
    refine DataW.weights_mem_each (j := 3) (t := 46) (d := y3.1) rfl rfl q hq))
  obtain ⟨routers, p7, c7, rfl, hN, hrok, hrl⟩ := nums_came f5 (fun q hq => hs q (by
    simp only [DataW.weights, Try.underlying48]
    refine DataW.weights_mem_each (j := 5) (t := 27) (d := y5.1) rfl rfl q hq))
  exact ⟨n0, m0, n2x, n6, i1, i2, i4, links, routers, p5, p7, c5, c7, rfl, hL, hN, hll, hrl, ⟨wf_int w0, wf_int u0, b1, b2, wf_int w2, hlok, b4, hrok, wf_int w6⟩⟩
end
end Go.Proofs.Ytdaongflpllfhaa
/- A packet's bytes, plain; which may be; what bytes tell. -/
namespace Go.Proofs.Ytdaongflpllfhaa
open Go.RowKit

def headsB (hs : List HeadD) : List UInt8 := hs.flatMap headB
theorem headsB_len (hs : List HeadD) : (headsB hs).length = 20 * hs.length := by
  induction hs with
  | nil => rfl
  | cons n ns ih => unfold headsB at *; rw [List.flatMap_cons, List.length_append, ih, headB_len, List.length_cons]; omega
theorem headsB_snoc (ls : List HeadD) (l : HeadD) : headsB (ls ++ [l]) = headsB ls ++ headB l := by unfold headsB; simp
def keyB (k : KeyD) : List UInt8 := be 4 (lo32 k.type) ++ be 4 k.id ++ be 4 k.adv
theorem keyB_len (k : KeyD) : (keyB k).length = 12 := by unfold keyB; simp [be_len]
def keysB (ks : List KeyD) : List UInt8 := ks.flatMap keyB
theorem keysB_len (hs : List KeyD) : (keysB hs).length = 12 * hs.length := by
  induction hs with
  | nil => rfl
  | cons n ns ih => unfold keysB at *; rw [List.flatMap_cons, List.length_append, ih, keyB_len, List.length_cons]; omega
theorem keysB_snoc (ls : List KeyD) (l : KeyD) : keysB (ls ++ [l]) = keysB ls ++ keyB l := by unfold keysB; simp
def lsasB (ls : List LsaD) : List UInt8 := ls.flatMap putB
theorem lsasB_snoc (ls : List LsaD) (l : LsaD) : lsasB (ls ++ [l]) = lsasB ls ++ putB l := by unfold lsasB; simp
theorem putB_le {l : LsaD} (h : canB l = true) : (putB l).length ≤ 504 := by
  rw [putB_len]
  have := tellB_len (canB_lens h).1 (canB_lens h).2
  omega
theorem lsasB_le (ls : List LsaD) (h : ∀ l ∈ ls, canB l = true) : (lsasB ls).length ≤ 504 * ls.length := by
  induction ls with
  | nil => simp [lsasB]
  | cons n ns ih =>
    unfold lsasB at *
    rw [List.flatMap_cons, List.length_append, List.length_cons]
    have h1 := putB_le (h n (by simp))
    have h2 := ih (fun l hl => h l (by simp [hl]))
    omega
def greetB (p : PackD) : List UInt8 := be 4 p.mask ++ be 2 (lo16 p.interval) ++ [2, UInt8.ofNat (lo8 p.priority)] ++ be 4 (lo32 p.dead) ++ be 4 p.dr ++ be 4 p.bdr ++ bes p.nbs
theorem greetB_len (p : PackD) : (greetB p).length = 20 + 4 * p.nbs.length := by unfold greetB; simp [be_len, bes_len]; omega
/-- the bytes behind the head -/
def tellP (p : PackD) : List UInt8 :=
  if p.type = 1 then greetB p
  else if p.type = 2 then [5, 220, 2, UInt8.ofNat (lo8 p.flags)] ++ be 4 p.seq ++ headsB p.heads
  else if p.type = 3 then keysB p.keys
  else if p.type = 4 then be 4 p.lsas.length ++ lsasB p.lsas
  else headsB p.heads
/-- which may be -/
def wrongKey (k : KeyD) : Bool := !withinB k.type 0 255
def wrongHead (h : HeadD) : Bool := !withinB h.age 0 65535 || (!withinB h.len 0 65535 || (!withinB h.seq (-2147483648) 2147483647 || !withinB h.type 0 255))
def noneG (p : PackD) : Bool := decide (p.mask = 0) && (decide (p.interval = 0) && (decide (p.dead = 0) && (decide (p.priority = 0) && (decide (p.dr = 0) && (decide (p.bdr = 0) && decide (p.nbs.length = 0))))))
def greetsG (p : PackD) : Bool := withinB p.interval 1 65535 && (withinB p.dead 1 65535 && (withinB p.priority 0 255 && decide (p.nbs.length ≤ 20)))
def otherP (p : PackD) : Bool :=
  (!decide (p.type = 1) && !noneG p) || ((!decide (p.type = 2) && (!decide (p.flags = 0) || !decide (p.seq = 0))) ||
  ((!decide (p.type = 2) && (!decide (p.type = 5) && decide (0 < p.heads.length))) || ((!decide (p.type = 3) && decide (0 < p.keys.length)) || (!decide (p.type = 4) && decide (0 < p.lsas.length)))))
def listsP (p : PackD) : Bool := decide (p.heads.length ≤ 20) && (!p.heads.any wrongHead && (decide (p.keys.length ≤ 20) && (!p.keys.any wrongKey && decide (p.lsas.length ≤ 20))))
def authOk (a : List UInt8) : Bool := decide (a.length ≤ 8) && !a.any (· == 0)
def canP (p : PackD) : Bool := withinB p.type 1 5 && (!otherP p && ((!decide (p.type = 1) || greetsG p) && (authOk p.auth && (withinB p.flags 0 7 && listsP p))))
def okP (p : PackD) : Bool := canP p && p.lsas.all canB
/-- the key's eight bytes, its kind -/
def key8 (a : List UInt8) : List UInt8 := patch (noughts 8) 0 (a.take 8)
theorem key8_len (a : List UInt8) : (key8 a).length = 8 := by unfold key8; rw [patch_len _ _ _ (by rw [noughts_len, List.length_take]; omega), noughts_len]
def kindA (a : List UInt8) : Nat := if a = [] then 0 else 1
/-- the head's sixteen bytes ahead of the key, with a sum -/
def headP (p : PackD) (n s : Nat) : List UInt8 := [2, UInt8.ofNat (lo8 p.type)] ++ be 2 (24 + n) ++ be 4 p.router ++ be 4 p.area ++ be 2 s ++ be 2 (kindA p.auth)
theorem headP_len (p : PackD) (n s : Nat) : (headP p n s).length = 16 := by unfold headP; simp [be_len]
def sumP (p : PackD) : Nat := inet (headP p (tellP p).length 0 ++ tellP p)
def putP (p : PackD) : List UInt8 := headP p (tellP p).length (sumP p) ++ key8 p.auth ++ tellP p
theorem putP_len (p : PackD) : (putP p).length = 24 + (tellP p).length := by unfold putP; simp [headP_len, key8_len]; omega
theorem canP_parts {p : PackD} (h : canP p = true) : withinB p.type 1 5 = true ∧ otherP p = false ∧ (p.type = 1 → greetsG p = true) ∧ authOk p.auth = true ∧ withinB p.flags 0 7 = true ∧ listsP p = true := by
  unfold canP at h
  simp only [Bool.and_eq_true, Bool.or_eq_true, Bool.not_eq_true', decide_eq_true_eq] at h
  obtain ⟨h1, h2, h3, h4, h5, h6⟩ := h
  refine ⟨h1, h2, fun e => ?_, h4, h5, h6⟩
  rcases h3 with h | h
  · rw [decide_eq_false_iff_not] at h; exact absurd e h
  · exact h
theorem listsP_parts {p : PackD} (h : listsP p = true) : p.heads.length ≤ 20 ∧ p.heads.any wrongHead = false ∧ p.keys.length ≤ 20 ∧ p.keys.any wrongKey = false ∧ p.lsas.length ≤ 20 := by
  unfold listsP at h
  simpa only [Bool.and_eq_true, Bool.not_eq_true', decide_eq_true_eq] using h
theorem tellP_len {p : PackD} (h : okP p = true) : (tellP p).length ≤ 10084 := by
  unfold okP at h
  rw [Bool.and_eq_true] at h
  obtain ⟨h1, h2⟩ := h
  obtain ⟨a1, a2, a3, a4, a5, a6⟩ := canP_parts h1
  obtain ⟨b1, b2, b3, b4, b5⟩ := listsP_parts a6
  have h2' : ∀ l ∈ p.lsas, canB l = true := by simpa using h2
  unfold tellP
  split
  · rename_i t
    have := a3 t
    unfold greetsG at this
    simp only [Bool.and_eq_true, decide_eq_true_eq] at this
    rw [greetB_len]; omega
  · split
    · simp [be_len, headsB_len]; omega
    · split
      · rw [keysB_len]; omega
      · split
        · have := lsasB_le p.lsas h2'
          rw [List.length_append, be_len]; omega
        · rw [headsB_len]; omega
/-- what bytes tell -/
def zeroP : PackD := ⟨0, 0, 0, [], 0, 0, 0, 0, 0, 0, [], 0, 0, [], [], []⟩
def hdAt (x : List UInt8) (k : Nat) : HeadD := headOf (x.drop k)
def readH (x : List UInt8) (j : Nat) : List HeadD := (List.range j).map fun i => headOf (x.drop (20 * i))
theorem readH_len (l : List UInt8) (j : Nat) : (readH l j).length = j := by unfold readH; simp
theorem readH_succ (l : List UInt8) (j : Nat) : readH l (j + 1) = readH l j ++ [headOf (l.drop (20 * j))] := by unfold readH; simp [List.range_succ]
def keyAt (x : List UInt8) (k : Nat) : KeyD := ⟨(beVal (sub x k 4) : Nat), beVal (sub x (k + 4) 4), beVal (sub x (k + 8) 4)⟩
def readK (x : List UInt8) (j : Nat) : List KeyD := (List.range j).map fun i => keyAt x (12 * i)
theorem readK_len (l : List UInt8) (j : Nat) : (readK l j).length = j := by unfold readK; simp
theorem readK_succ (l : List UInt8) (j : Nat) : readK l (j + 1) = readK l j ++ [keyAt l (12 * j)] := by unfold readK; simp [List.range_succ]
/-- n Lsas one behind the other, or the first error -/
def readA : Nat → List UInt8 → List LsaD × Int
  | 0, _ => ([], 0)
  | n + 1, x =>
    if x.length < 20 ∨ (headOf x).len < 20 ∨ (x.length : Int) < (headOf x).len then ([], 3)
    else if (getL (x.take (headOf x).len.toNat)).2 ≠ 0 then ([], (getL (x.take (headOf x).len.toNat)).2)
    else if (readA n (x.drop (headOf x).len.toNat)).2 ≠ 0 then ([], (readA n (x.drop (headOf x).len.toNat)).2)
    else ((getL (x.take (headOf x).len.toNat)).1 :: (readA n (x.drop (headOf x).len.toNat)).1, 0)
def lsasOf (x : List UInt8) : List LsaD × Int :=
  if x.length < 4 ∨ 20 < beVal (sub x 0 4) then ([], 3) else readA (beVal (sub x 0 4)) (x.drop 4)
/-- type, router, area and auth, and nothing else -/
def bareP (type : Int) (router area : Nat) (auth : List UInt8) : PackD := ⟨type, router, area, auth, 0, 0, 0, 0, 0, 0, [], 0, 0, [], [], []⟩
def hearP (type : Int) (router area : Nat) (auth x : List UInt8) : PackD × Int :=
  if type = 1 ∧ 20 ≤ x.length then (⟨1, router, area, auth, beVal (sub x 0 4), (beVal (sub x 4 2) : Nat), (beVal (sub x 8 4) : Nat), ((x.getD 7 0).toNat : Int), beVal (sub x 12 4), beVal (sub x 16 4), readN (x.drop 20) ((x.length - 20) / 4), 0, 0, [], [], []⟩, 0)
  else if type = 2 ∧ 8 ≤ x.length then (⟨2, router, area, auth, 0, 0, 0, 0, 0, 0, [], ((x.getD 3 0).toNat : Int), beVal (sub x 4 4), readH (x.drop 8) ((x.length - 8) / 20), [], []⟩, 0)
  else if type = 3 then (⟨3, router, area, auth, 0, 0, 0, 0, 0, 0, [], 0, 0, [], readK x (x.length / 12), []⟩, 0)
  else if type = 4 then (⟨4, router, area, auth, 0, 0, 0, 0, 0, 0, [], 0, 0, [], [], (lsasOf x).1⟩, (lsasOf x).2)
  else if type = 5 then (⟨5, router, area, auth, 0, 0, 0, 0, 0, 0, [], 0, 0, readH x (x.length / 20), [], []⟩, 0)
  else (bareP type router area auth, 0)
/-- the sum that bytes should have -/
def sumX (x : List UInt8) : Nat := inet (x.take 12 ++ [0, 0] ++ sub x 14 2 ++ x.drop 24)
def getP (x auth : List UInt8) : PackD × Int :=
  if x.length < 24 then (zeroP, 4)
  else if x.getD 0 0 ≠ 2 ∨ beVal (sub x 2 2) ≠ x.length then (zeroP, 3)
  else if beVal (sub x 12 2) ≠ sumX x then (zeroP, 8)
  else if 8 < auth.length ∨ beVal (sub x 14 2) ≠ kindA auth ∨ sub x 16 8 ≠ key8 auth then (zeroP, 9)
  else if (hearP ((x.getD 1 0).toNat : Int) (beVal (sub x 4 4)) (beVal (sub x 8 4)) auth (x.drop 24)).2 ≠ 0 then (zeroP, (hearP ((x.getD 1 0).toNat : Int) (beVal (sub x 4 4)) (beVal (sub x 8 4)) auth (x.drop 24)).2)
  else if okP (hearP ((x.getD 1 0).toNat : Int) (beVal (sub x 4 4)) (beVal (sub x 8 4)) auth (x.drop 24)).1 = true ∧ putP (hearP ((x.getD 1 0).toNat : Int) (beVal (sub x 4 4)) (beVal (sub x 8 4)) auth (x.drop 24)).1 = x then ((hearP ((x.getD 1 0).toNat : Int) (beVal (sub x 4 4)) (beVal (sub x 8 4)) auth (x.drop 24)).1, 0)
  else (zeroP, 3)
end Go.Proofs.Ytdaongflpllfhaa
/- packet: kindOf, keyBytes, sumOf, within, isWrongKey, isWrongHead, and the searches by them: walked. -/
namespace Go.Proofs.Ytdaongflpllfhaa
open Go.RowKit

theorem pkKindOf_any (s : ByteArray) (a : List UInt8) (hs : s.data.toList = a) (w : World) : Calls Try.prog 46 #[.string s] w fun e w' => e = .returned (.int .u16 (kindA a)) ∧ w = w' := by
  have h0 : s.toList.isEmpty = a.isEmpty := by rw [Lib.toList_data, hs]
  clear hs
  cases a with
  | nil =>
    have h : s.toList.isEmpty = true := h0
    clear h0
    go_enter Try.func46, Try.ntmps46
    go_wp2
    go_ret
    exact ⟨rfl, rfl⟩
  | cons b l =>
    have h : s.toList.isEmpty = false := h0
    have hk : Hid (kindA (b :: l) = 1) := Lib.hid rfl
    clear h0
    go_enter Try.func46, Try.ntmps46
    go_wp2
    go_ret
    exact ⟨by rw [hk.out]; rfl, rfl⟩

/-- copies of a text into a block of bytes, as much as there is room for -/
theorem run_copy_str_cut {P : Program} (w : World) (dT sT ty elem : TypeId) (b o dLen dCap : Nat) (s : ByteArray) (l : List UInt8)
    (hu : P.underlying dT = some (.slice elem)) (hs : (P.info? elem).map (·.size) = some 1) (hl : s.data.toList.take dLen = l) (hth : w.there b o l.length) :
    (Builtin.copy_ #[dT, sT] ty #[.slice (some ⟨b, o, none⟩) dLen dCap, .string s]).run P w = .ok (goInt l.length) (w.setCells b o (l.map bv)) := by
  have hst := run_storeCells_cells (P := P) b o (l.map bv) 0 w (fun j hj => by simpa using (hth j (by simpa using hj)).1) (fun j hj => by simpa using (hth j (by simpa using hj)).2) (bv_one l)
  have hsz : s.size = s.data.toList.length := rfl
  have hmin : s.size.min dLen = l.length := by rw [← hl, List.length_take, hsz]; exact Nat.min_comm _ _
  have hcs : List.take l.length (List.map (fun b : UInt8 => Value.int .u8 b.toNat) s.data.toList) = l.map bv := by
    rw [← List.map_take, ← hl]
    congr 1
    rw [List.length_take, List.take_eq_take_iff]; omega
  cases hq : P.info? elem with
  | none => simp [hq] at hs
  | some i =>
    have hst' : Sem.run P (storeCells { block := b, off := o } (l.map bv)) w = .ok () (w.setCells b o (l.map bv)) := by simpa using hst
    simp [Builtin.copy_, run_underlying hu, Builtin.lenOf, Builtin.firstCells, sizeOf, typeInfo, hq, hmin, hcs, hst']
theorem wpList_copy_str_cut {P : Program} {w : World} {ops : Array Oper} {rest : List Oper} {o : Oper} {a : Act} {Q : Exit → Act → World → Prop} (hgd : o.guard = none) (d s : Operand) (dT sT : TypeId)
    (ho : o.op = .call { callee := .builtin .copy, args := #[d, s], argTypes := #[dT, sT] }) (elem : TypeId) (hu : P.underlying dT = some (.slice elem)) (hsz : (P.info? elem).map (·.size) = some 1)
    (g off dLen dCap : Nat) (st : ByteArray) (hd : a.eval d = .slice (some ⟨g, off, none⟩) dLen dCap) (hs : a.eval s = .string st) (x l : List UInt8) (hl : st.data.toList.take dLen = l)
    (hb : BufAt w g x) (hx : off + l.length ≤ x.length)
    (h : ∀ w1, Hid (Laid g off x l w w1) → wpList P ops Q rest (a.put o.dst (goInt l.length)) w1) : wpList P ops Q (o :: rest) a w := by
  refine wpList_plain hgd fun K hK => ?_
  have hrun := run_copy_str_cut (P := P) w dT sT o.type elem g off dLen dCap st l hu hsz hl (hb.there off _ hx)
  have h' := h _ (Lib.hid ⟨hb.sets l off x w hx, Keeps.setCells (F := fun k => k = g) (.inl rfl) _ _ _ (Keeps.refl _ _)⟩)
  unfold Oper.wp
  simp [execOp, ho, resolve, invoke, builtin, hd, hs, hrun, Result.andThen]
  exact hK _ _ h'
set_option maxRecDepth 100000 in
theorem pkKeyBytes_any (s : ByteArray) (a : List UInt8) (hs : s.data.toList = a) (w : World) : Calls Try.prog 47 #[.string s] w fun e w' => ∃ g, e = .returned (.slice (some ⟨g, 0, none⟩) 8 8) ∧ w.heap.size ≤ g ∧ BufAt w' g (key8 a) ∧ Keeps (fun _ => False) w w' := by
  obtain ⟨i0, hi0, hz0, hz1, hz2⟩ := info_parts u8InfoAll
  have hz2' := Lib.hid hz2; clear hz2
  have ht : Hid (s.data.toList.take 8 = a.take 8) := Lib.hid (by rw [hs])
  have hl8 : Hid ((a.take 8).length ≤ 8) := Lib.hid (by rw [List.length_take]; omega)
  clear hs
  obtain ⟨y, hy⟩ : ∃ y, y = a.take 8 := ⟨_, rfl⟩
  have hk : Hid (key8 a = patch (noughts 8) 0 y) := Lib.hid (by rw [hy]; rfl)
  rw [← hy] at ht hl8
  clear hy
  go_enter Try.func47, Try.ntmps47
  go_wp2_with (first | (at_make; refine wpList_make_full _ rfl (.const (.int .i64 8)) (.const (.int .i64 8)) 71 rfl 0 5 i0 (.int .u8 0) 1 Try.underlying71 hi0 hz0 hz1 .i64 .i64 8 8 8 rfl rfl rfl rfl ?c1 ?c2 ?c3 ?_; rotate_right; intro w1 ho1 hg1; have hB1 := Lib.hid (made_noughts ho1); clear ho1; have hK1 := Lib.hid (Keeps.grown (Keeps.refl (fun _ => False) _) hg1 (fun k e => by cases e)); clear hg1) | ((with_reducible refine at_slot 7 ?_); refine wpList_copy_str_cut rfl (.tmp 5) (.tmp 6) 71 9 rfl 5 Try.underlying71 u8Info w.heap.size 0 8 8 _ rfl rfl (noughts 8) y ht.out hB1.out (by have := hl8.out; rw [noughts_len]; omega) ?_; intro w2 hL2))
  case c1 => have := hz2'.out; omega
  case c2 => decide
  case c3 => exact Nat.zero_le _
  go_ret
  exact ⟨w.heap.size, rfl, Nat.le_refl _, by rw [hk.out]; exact hL2.out.1, hK1.out.laid hL2.out (Nat.le_refl _)⟩

theorem pkWithin_r (n lo hi : Int) (r : Bool) (w : World) (hr : Hid (withinB n lo hi = r)) :
    Calls Try.prog 67 #[.int .i64 n, .int .i64 lo, .int .i64 hi] w fun e w' => e = .returned (.bool r) ∧ w = w' := by
  have h := hr.out
  unfold withinB at h
  by_cases h1 : lo ≤ n
  · by_cases h2 : n ≤ hi
    · rw [decide_eq_true ⟨h1, h2⟩] at h
      subst h
      go_enter Try.func67, Try.ntmps67
      go_wp2
      go_ret
      exact ⟨rfl, rfl⟩
    · rw [decide_eq_false (fun h => h2 h.2)] at h
      subst h
      go_enter Try.func67, Try.ntmps67
      go_wp2
      go_ret
      exact ⟨rfl, rfl⟩
  · rw [decide_eq_false (fun h => h1 h.1)] at h
    subst h
    go_enter Try.func67, Try.ntmps67
    go_wp2
    go_ret
    exact ⟨rfl, rfl⟩
theorem pkIsWrongKey_r (k : KeyD) (r : Bool) (w : World) (hr : Hid (wrongKey k = r)) :
    Calls Try.prog 74 #[.agg #[.int .i64 k.type, .int .u32 k.id, .int .u32 k.adv]] w (fun e w' => e = .returned (.bool r) ∧ Keeps (fun _ => False) w w') := by
  have h := hr.out
  unfold wrongKey at h
  obtain ⟨a, ha⟩ : ∃ a, withinB k.type 0 255 = a := ⟨_, rfl⟩
  rw [ha] at h
  subst h
  have ha' := Lib.hid ha
  clear ha hr
  go_enter Try.func74, Try.ntmps74
  go_wp2_with fail
  refine (pkWithin_r _ _ _ a _ ha').mono ?_
  rintro e w' ⟨rfl, rfl⟩
  go_wp2_with fail
  go_ret
  exact ⟨rfl, (Keeps.refl _ _).alloc _⟩
set_option maxRecDepth 100000 in
set_option maxHeartbeats 1000000 in
theorem pkIsWrongHead_r (h : HeadD) (r : Bool) (w : World) (hr : Hid (wrongHead h = r)) :
    Calls Try.prog 72 #[.agg #[.int .i64 h.age, .int .i64 h.type, .int .u32 h.id, .int .u32 h.adv, .int .i64 h.seq, .int .u16 h.sum, .int .i64 h.len]] w (fun e w' => e = .returned (.bool r) ∧ Keeps (fun _ => False) w w') := by
  have hq := hr.out
  unfold wrongHead at hq
  obtain ⟨a, ha⟩ : ∃ a, withinB h.age 0 65535 = a := ⟨_, rfl⟩
  obtain ⟨b, hb⟩ : ∃ b, withinB h.len 0 65535 = b := ⟨_, rfl⟩
  obtain ⟨c, hc⟩ : ∃ c, withinB h.seq (-2147483648) 2147483647 = c := ⟨_, rfl⟩
  obtain ⟨d, hd⟩ : ∃ d, withinB h.type 0 255 = d := ⟨_, rfl⟩
  rw [ha, hb, hc, hd] at hq
  have ha' := Lib.hid ha; have hb' := Lib.hid hb; have hc' := Lib.hid hc
  have hd' : Hid (wrongKey ⟨h.type, h.id, h.adv⟩ = !d) := Lib.hid (by unfold wrongKey; rw [hd])
  have hkey : Hid ((w.alloc (.cells #[.int .i64 h.age, .int .i64 h.type, .int .u32 h.id, .int .u32 h.adv, .int .i64 h.seq, .int .u16 h.sum, .int .i64 h.len] 82)).rangeAt w.heap.size 1 [.int .i64 h.type, .int .u32 h.id, .int .u32 h.adv]) := Lib.hid (key_range (BlkAt.new w 82 [.int .i64 h.age, .int .i64 h.type, .int .u32 h.id, .int .u32 h.adv, .int .i64 h.seq, .int .u16 h.sum, .int .i64 h.len]))
  clear ha hb hc hd hr
  cases a with
  | false =>
    subst hq
    go_enter Try.func72, Try.ntmps72
    go_wp2_with fail
    refine (pkWithin_r _ _ _ false _ ha').mono ?_
    rintro e w' ⟨rfl, rfl⟩
    go_wp2_with fail
    go_ret
    exact ⟨rfl, (Keeps.refl _ _).alloc _⟩
  | true =>
  cases b with
  | false =>
    subst hq
    go_enter Try.func72, Try.ntmps72
    go_wp2_with fail
    refine (pkWithin_r _ _ _ true _ ha').mono ?_
    rintro e w' ⟨rfl, rfl⟩
    go_wp2_with fail
    refine (pkWithin_r _ _ _ false _ hb').mono ?_
    rintro e w' ⟨rfl, rfl⟩
    go_wp2_with fail
    go_ret
    exact ⟨rfl, (Keeps.refl _ _).alloc _⟩
  | true =>
  cases c with
  | false =>
    subst hq
    go_enter Try.func72, Try.ntmps72
    go_wp2_with fail
    refine (pkWithin_r _ _ _ true _ ha').mono ?_
    rintro e w' ⟨rfl, rfl⟩
    go_wp2_with fail
    refine (pkWithin_r _ _ _ true _ hb').mono ?_
    rintro e w' ⟨rfl, rfl⟩
    go_wp2_with fail
    refine (pkWithin_r _ _ _ false _ hc').mono ?_
    rintro e w' ⟨rfl, rfl⟩
    go_wp2_with fail
    go_ret
    exact ⟨rfl, (Keeps.refl _ _).alloc _⟩
  | true =>
    have hq' : (!d) = r := hq
    rw [hq'] at hd'
    clear hq hq'
    go_enter Try.func72, Try.ntmps72
    go_wp2_with fail
    refine (pkWithin_r _ _ _ true _ ha').mono ?_
    rintro e w' ⟨rfl, rfl⟩
    go_wp2_with fail
    refine (pkWithin_r _ _ _ true _ hb').mono ?_
    rintro e w' ⟨rfl, rfl⟩
    go_wp2_with fail
    refine (pkWithin_r _ _ _ true _ hc').mono ?_
    rintro e w' ⟨rfl, rfl⟩
    go_wp2_with ((with_reducible refine at_slot 21 ?_); refine wpList_load_mid_gd (by rfl) 25 (.tmp 20) rfl w.heap.size 1 rfl _ _ hkey.out Try.underlying25 rfl keyInfo ?_)
    refine (pkIsWrongKey_r ⟨h.type, h.id, h.adv⟩ r _ hd').mono ?_
    rintro e w2 ⟨rfl, k2⟩
    have k2' := Lib.hid k2; clear k2
    go_wp2_with fail
    go_ret
    exact ⟨rfl, ((Keeps.refl _ _).alloc _).trans k2'.out⟩
def anyHeads (ls : List HeadD) (k : Nat) : Bool := (ls.drop k).any wrongHead
theorem anyHeads_step (ls : List HeadD) (k : Nat) (l : HeadD) (h : ls[k]? = some l) : anyHeads ls k = (wrongHead l || anyHeads ls (k + 1)) := by
  obtain ⟨hk, rfl⟩ := List.getElem?_eq_some_iff.1 h
  unfold anyHeads
  rw [List.drop_eq_getElem_cons hk, List.any_cons]
theorem anyHeads_end (ls : List HeadD) : anyHeads ls ls.length = false := by unfold anyHeads; simp
set_option maxRecDepth 100000 in
theorem slIFHeads_any (sl : Value) (ls : List HeadD) (hl : ls.length ≤ 9223372036854775807) (z : Bool) (w : World) (h : Hid (RowsAt 7 headVals w sl ls)) (hz : Hid (ls.any wrongHead = z)) :
    Calls Try.prog 102 #[sl, .func (.func 72) #[] #[]] w (fun e w' => (∃ r : Int, e = .returned (.int .i64 r) ∧ decide (0 ≤ r) = z) ∧ Keeps (fun _ => False) w w') := by
  obtain ⟨p, c, rfl, -, -, hb⟩ := h.out
  have hb' := Lib.hid hb; clear hb h
  go_enter Try.func102, Try.ntmps102
  go_wp2_with fail
  go_loopw [8] (fun iv wr => ∃ k : Nat, k ≤ ls.length ∧ iv = .int .i64 k ∧ Hid (anyHeads ls k = z) ∧ Hid (Keeps (fun _ => False) w wr)) (fun iv _ => ls.length - (intOf iv).toNat)
  case atStart => exact ⟨0, by omega, rfl, Lib.hid hz.out, Lib.hid (Keeps.refl _ _)⟩
  case round =>
    obtain ⟨k, hk, rfl, hany, hkr⟩ := hrel
    by_cases hlk : k < ls.length
    · obtain ⟨g, o, rfl, hrows⟩ := hb'.out (by omega)
      obtain ⟨l, hll⟩ : ∃ l, ls[k]? = some l := ⟨_, List.getElem?_eq_getElem hlk⟩
      have hrow : Hid (wr.rangeAt g (o + k * 7) [.int .i64 l.age, .int .i64 l.type, .int .u32 l.id, .int .u32 l.adv, .int .i64 l.seq, .int .u16 l.sum, .int .i64 l.len]) := Lib.hid (hkr.out.rangeAt (hrows k l hll) id)
      have hst := anyHeads_step ls k l hll
      rw [hany.out] at hst
      obtain ⟨x, hx⟩ : ∃ x, wrongHead l = x := ⟨_, rfl⟩
      rw [hx] at hst
      have hx' := Lib.hid hx; have hst' := Lib.hid hst
      clear hx hst hrows hll hany
      go_wp2_with ((with_reducible refine at_slot 15 ?_); refine wpList_load_mid rfl 82 (.tmp 14) rfl g (o + k * 7) rfl _ _ hrow.out Try.underlying82 rfl headInfo ?_)
      refine (pkIsWrongHead_r l x _ hx').mono ?_
      rintro e w2 ⟨rfl, k2⟩
      have k2' := Lib.hid (hkr.out.trans k2); clear k2
      cases x with
      | true =>
        have hz1 : Hid (z = true) := Lib.hid hst'.out
        clear hst'
        go_wp2_with fail
        go_ret
        exact ⟨⟨_, rfl, by rw [hz1.out]; simp⟩, k2'.out⟩
      | false =>
        have hz1 : Hid (anyHeads ls (k + 1) = z) := Lib.hid hst'.out.symm
        clear hst'
        go_wp2_with fail
        exact ⟨⟨k + 1, by omega, by go_num, hz1, k2'⟩, by simp [intOf]; omega⟩
    · obtain rfl : k = ls.length := by omega
      have hz1 : Hid (z = false) := Lib.hid (by rw [← hany.out, anyHeads_end])
      clear hany
      go_wp2_with fail
      go_ret
      exact ⟨⟨_, rfl, by rw [hz1.out]; rfl⟩, hkr.out⟩
theorem slCFHeads_any (sl : Value) (ls : List HeadD) (hl : ls.length ≤ 9223372036854775807) (z : Bool) (w : World) (h : Hid (RowsAt 7 headVals w sl ls)) (hz : Hid (ls.any wrongHead = z)) :
    Calls Try.prog 71 #[sl, .func (.func 72) #[] #[]] w (fun e w' => e = .returned (.bool z) ∧ Keeps (fun _ => False) w w') := by
  go_enter Try.func71, Try.ntmps71
  go_wp2_with fail
  refine (slIFHeads_any sl ls hl z _ h hz).mono ?_
  rintro e w2 ⟨⟨r, rfl, hr⟩, k2⟩
  have hr' := Lib.hid hr; have k2' := Lib.hid k2
  clear hr k2
  go_wp2_with fail
  go_ret
  exact ⟨by rw [← hr'.out]; rfl, k2'.out⟩
def anyKeys (ls : List KeyD) (k : Nat) : Bool := (ls.drop k).any wrongKey
theorem anyKeys_step (ls : List KeyD) (k : Nat) (l : KeyD) (h : ls[k]? = some l) : anyKeys ls k = (wrongKey l || anyKeys ls (k + 1)) := by
  obtain ⟨hk, rfl⟩ := List.getElem?_eq_some_iff.1 h
  unfold anyKeys
  rw [List.drop_eq_getElem_cons hk, List.any_cons]
theorem anyKeys_end (ls : List KeyD) : anyKeys ls ls.length = false := by unfold anyKeys; simp
set_option maxRecDepth 100000 in
theorem slIFKeys_any (sl : Value) (ls : List KeyD) (hl : ls.length ≤ 9223372036854775807) (z : Bool) (w : World) (h : Hid (RowsAt 3 keyVals w sl ls)) (hz : Hid (ls.any wrongKey = z)) :
    Calls Try.prog 103 #[sl, .func (.func 74) #[] #[]] w (fun e w' => (∃ r : Int, e = .returned (.int .i64 r) ∧ decide (0 ≤ r) = z) ∧ Keeps (fun _ => False) w w') := by
  obtain ⟨p, c, rfl, -, -, hb⟩ := h.out
  have hb' := Lib.hid hb; clear hb h
  go_enter Try.func103, Try.ntmps103
  go_wp2_with fail
  go_loopw [8] (fun iv wr => ∃ k : Nat, k ≤ ls.length ∧ iv = .int .i64 k ∧ Hid (anyKeys ls k = z) ∧ Hid (Keeps (fun _ => False) w wr)) (fun iv _ => ls.length - (intOf iv).toNat)
  case atStart => exact ⟨0, by omega, rfl, Lib.hid hz.out, Lib.hid (Keeps.refl _ _)⟩
  case round =>
    obtain ⟨k, hk, rfl, hany, hkr⟩ := hrel
    by_cases hlk : k < ls.length
    · obtain ⟨g, o, rfl, hrows⟩ := hb'.out (by omega)
      obtain ⟨l, hll⟩ : ∃ l, ls[k]? = some l := ⟨_, List.getElem?_eq_getElem hlk⟩
      have hrow : Hid (wr.rangeAt g (o + k * 3) [.int .i64 l.type, .int .u32 l.id, .int .u32 l.adv]) := Lib.hid (hkr.out.rangeAt (hrows k l hll) id)
      have hst := anyKeys_step ls k l hll
      rw [hany.out] at hst
      obtain ⟨x, hx⟩ : ∃ x, wrongKey l = x := ⟨_, rfl⟩
      rw [hx] at hst
      have hx' := Lib.hid hx; have hst' := Lib.hid hst
      clear hx hst hrows hll hany
      go_wp2_with ((with_reducible refine at_slot 15 ?_); refine wpList_load_mid rfl 25 (.tmp 14) rfl g (o + k * 3) rfl _ _ hrow.out Try.underlying25 rfl keyInfo ?_)
      refine (pkIsWrongKey_r l x _ hx').mono ?_
      rintro e w2 ⟨rfl, k2⟩
      have k2' := Lib.hid (hkr.out.trans k2); clear k2
      cases x with
      | true =>
        have hz1 : Hid (z = true) := Lib.hid hst'.out
        clear hst'
        go_wp2_with fail
        go_ret
        exact ⟨⟨_, rfl, by rw [hz1.out]; simp⟩, k2'.out⟩
      | false =>
        have hz1 : Hid (anyKeys ls (k + 1) = z) := Lib.hid hst'.out.symm
        clear hst'
        go_wp2_with fail
        exact ⟨⟨k + 1, by omega, by go_num, hz1, k2'⟩, by simp [intOf]; omega⟩
    · obtain rfl : k = ls.length := by omega
      have hz1 : Hid (z = false) := Lib.hid (by rw [← hany.out, anyKeys_end])
      clear hany
      go_wp2_with fail
      go_ret
      exact ⟨⟨_, rfl, by rw [hz1.out]; rfl⟩, hkr.out⟩
theorem slCFKeys_any (sl : Value) (ls : List KeyD) (hl : ls.length ≤ 9223372036854775807) (z : Bool) (w : World) (h : Hid (RowsAt 3 keyVals w sl ls)) (hz : Hid (ls.any wrongKey = z)) :
    Calls Try.prog 73 #[sl, .func (.func 74) #[] #[]] w (fun e w' => e = .returned (.bool z) ∧ Keeps (fun _ => False) w w') := by
  go_enter Try.func73, Try.ntmps73
  go_wp2_with fail
  refine (slIFKeys_any sl ls hl z _ h hz).mono ?_
  rintro e w2 ⟨⟨r, rfl, hr⟩, k2⟩
  have hr' := Lib.hid hr; have k2' := Lib.hid k2
  clear hr k2
  go_wp2_with fail
  go_ret
  exact ⟨by rw [← hr'.out]; rfl, k2'.out⟩
end Go.Proofs.Ytdaongflpllfhaa
