/- PlanMakes, walked. -/
import Derived.Test.YtmclnamgihphcaaGreatMM29
import Derived.Test.YtmclnamgihphcaaGreatMM31
import Derived.Test.YtmclnamgihphcaaGreatMM16
import Derived.Test.YtmclnamgihphcaaGreatMM24
import Derived.Test.YtmclnamgihphcaaGreatMM23
import Derived.Deep.DeepCutAuto
set_option linter.unusedVariables false
set_option linter.unusedSimpArgs false
set_option linter.unusedVariables false
set_option linter.unusedSimpArgs false
namespace Go.Proofs.YtmclnamgihphcaaGreat
open Go.RowKit Go.Sort Go.Shelf

def ActsLt (fs : List ActD) (m : Nat) : Prop := ∀ f ∈ fs, f.name.length ≤ m
theorem textF_len {fs : List ActD} {m : Nat} (h : ActsLt fs m) : (textF fs).length ≤ fs.length * (m + 11) := by
  induction fs with
  | nil => simp [textF]
  | cons f fs ih =>
    have h1 := ih (fun x hx => h x (List.mem_cons_of_mem _ hx))
    have h2 := h f (List.mem_cons_self ..)
    have h3 := wordF_len f.kind
    have h4 : (pieceF f).length ≤ m + 11 := by
      unfold pieceF
      rw [List.length_append, List.length_append]
      split
      · simp; omega
      · simp; omega
    have e : textF (f :: fs) = pieceF f ++ textF fs := by unfold textF; rw [List.flatMap_cons]
    rw [e, List.length_append, List.length_cons, Nat.add_mul]; omega
theorem dd_len : ∀ (r : List ActD) (p : ActD), (ddF p r).length ≤ r.length := by
  intro r
  induction r with
  | nil => intro p; simp [ddF]
  | cons b r ih =>
    intro p
    have := ih b
    unfold ddF
    rw [List.length_append, List.length_cons]
    split <;> simp <;> omega
theorem compact_len (L : List ActD) : (compactL L).length ≤ L.length := by
  cases L with
  | nil => exact Nat.le_refl _
  | cons a r => have := dd_len r a; show (ddF a r).length + 1 ≤ r.length + 1; omega
theorem make_facts {a b : List LineD} (hra : rightC a = true) (hrb : rightC b = true) : (makeG a b).length ≤ 300 ∧ ActsLt (makeG a b) 100 := by
  have h1 := right_len hra
  have h2 := right_len hrb
  unfold makeG
  split
  · exact ⟨by simp, fun f hf => by rw [List.mem_singleton.1 hf]; simp⟩
  · constructor
    · have e1 := compact_len (sortA (rawA a b))
      rw [sortA_len] at e1
      have e2 : (rawA a b).length ≤ 300 := by
        unfold rawA
        have e3 := mergeC_len (a.length + b.length) a b (Nat.le_refl _)
        have e4 := facesC_len a b (mergeC (a.length + b.length) a b)
        have e5 := namesA_len 2 a
        have e6 := namesA_len 2 b
        have e7 : (areasC (mergeC (a.length + b.length) a b)).length ≤ (mergeC (a.length + b.length) a b).length := flat_len (fun c => by split <;> simp) _
        rw [List.length_append]; omega
      omega
    · intro f hf
      rw [mem_compact, (sortA_perm _).mem_iff] at hf
      have hn : ∀ (l : List LineD), rightC l = true → ∀ n ∈ namesA 2 l, n.length ≤ 100 := fun l hr n hn => by
        obtain ⟨q, hq, -, e⟩ := names_mem.1 hn
        have := (line_small (right_line hr q hq)).1
        rw [e] at this; exact this
      rw [← out_raw hra hrb] at hf
      rcases hf.2.2 with h | ⟨-, h⟩
      · rw [kOf_is hra hrb, mem_faces] at h
        rcases h with h | h | h
        · exact hn a hra _ h.1
        · exact hn a hra _ h.1
        · exact hn b hrb _ h.2.1
      · obtain ⟨c, hc, h⟩ := List.mem_flatMap.1 h
        obtain ⟨-, e⟩ := mem_ite1.1 h
        rw [e]; exact (docCh_facts hra hrb).2 c hc
theorem rest_one (a b : Option Addr) (n m c d : Nat) (z : Bool) : (#[.slice a n c, .slice b m d, .bool z] : Array Value).all (·.oneCell') = true := by simp; exact ⟨rfl, rfl, rfl⟩
theorem load_strings (w : World) (b o : Nat) (v : Value) (h : w.cell? ⟨b, o, none⟩ = some v) : (loadVar 38 ⟨b, o, none⟩).run Tryz.prog w = .ok v w := by simp [go_sem, h]
def lawEndM (w : World) (e : Ending) (w' : World) : Prop := e = .returned (.bool true) ∧ Keeps (fun _ => False) w w'
theorem restInfoM : (Tryz.prog.info? 40).map (·.size) = some 3 := restInfo
/-- what is counted on the way -/
theorem take_part {α β : Type} {f : α → List β} {W : List α} {k : Nat} {x : α} (h : W[k]? = some x) : W.flatMap f = (W.take k).flatMap f ++ (f x ++ (W.drop (k + 1)).flatMap f) := by
  obtain ⟨hk, e⟩ := List.getElem?_eq_some_iff.1 h
  have h2 : W = W.take k ++ (x :: W.drop (k + 1)) := by rw [← e, List.getElem_cons_drop, List.take_append_drop]
  calc W.flatMap f = (W.take k ++ (x :: W.drop (k + 1))).flatMap f := by rw [← h2]
    _ = _ := by rw [List.flatMap_append, List.flatMap_cons]
set_option maxRecDepth 100000 in
set_option maxHeartbeats 16000000 in
theorem planMakes_law (v u : Value) (xs ys : List LineD) (w : World) (hv : Hid (RowsAt 4 lineVals w v xs)) (hu : Hid (RowsAt 4 lineVals w u ys)) (hl1 : xs.length ≤ 1000000000000) (hl2 : ys.length ≤ 1000000000000) (hlt1 : Hid (LinesLt xs 8796093022000)) (hlt2 : Hid (LinesLt ys 8796093022000)) :
    Calls Tryz.prog 3 #[v, u] w (lawEndM w) := by
  obtain ⟨p, c, rfl⟩ := hv.out.slice
  obtain ⟨q, d, rfl⟩ := hu.out.slice
  go_enter Tryz.func3, Tryz.ntmps3
  go_wp2_with fail
  refine (build_any _ xs _ hv hl1 hlt1).mono ?_
  rintro e w1 ⟨pa, ca, rfl, hA, k1⟩
  have hA1 := Lib.hid (hA.at lineVals_len)
  have hu1 := Lib.hid (hu.out.keep k1)
  have k1' := Lib.hid k1
  clear hA k1 hv hu
  go_wp2_with fail
  refine (build_any _ ys _ hu1 hl2 hlt2).mono ?_
  rintro e w2 ⟨pb, cb, rfl, hB, k2⟩
  have hB2 := Lib.hid (hB.at lineVals_len)
  have hA2 := Lib.hid (hA1.out.keep k2)
  have k2' := Lib.hid (k1'.out.trans k2)
  clear hB k2 hA1 hu1 k1'
  have hra : rightC (buildC xs) = true := build_right xs
  have hrb : rightC (buildC ys) = true := build_right ys
  generalize buildC xs = a at hA2 hra ⊢
  generalize buildC ys = b at hB2 hrb ⊢
  have hra' := Lib.hid hra
  have hrb' := Lib.hid hrb
  have hla := right_len hra
  have hlb := right_len hrb
  obtain ⟨hgl, hgt⟩ := make_facts hra hrb
  have hgT := textF_len hgt
  clear hra hrb hl1 hl2 hlt1 hlt2
  go_wp2_with fail
  refine (to_any _ a _ hA2 (by omega)).mono ?_
  rintro e w3 ⟨p3, c3, rfl, hR3, k3⟩
  have hT3 := Lib.hid (hR3.at lineVals_len)
  have hA3 := Lib.hid (hA2.out.keep k3)
  have hB3 := Lib.hid (hB2.out.keep k3)
  have k3' := Lib.hid (k2'.out.trans k3)
  clear hR3 k3 hA2 hB2 k2'
  go_wp2_with fail
  refine (to_any _ b _ hB3 (by omega)).mono ?_
  rintro e w4 ⟨p4, c4, rfl, hR4, k4⟩
  have hU4 := Lib.hid (hR4.at lineVals_len)
  have hT4 := Lib.hid (hT3.out.keep k4)
  have hA4 := Lib.hid (hA3.out.keep k4)
  have hB4 := Lib.hid (hB3.out.keep k4)
  have k4' := Lib.hid (k3'.out.trans k4)
  clear hR4 k4 hA3 hB3 k3' hT3
  go_wp2_with fail
  refine (plMake_g _ _ a b _ hT4 hU4 hra' hrb').mono ?_
  rintro e w5 ⟨p5, c5, rfl, hR5, k5⟩
  have hL5 := Lib.hid hR5
  have hA5 := Lib.hid (hA4.out.keep k5)
  have hB5 := Lib.hid (hB4.out.keep k5)
  have k5' := Lib.hid (k4'.out.trans k5)
  clear hR5 k5 hA4 hB4 k4' hT4 hU4
  go_wp2_with fail
  refine (r17Make_any _ _ a b _ hA5 hra' hB5 hrb').mono ?_
  rintro e w6 ⟨p6, c6, rfl, hR6, k6⟩
  have hW6 := Lib.hid hR6
  have hL6 := Lib.hid (hL5.out.keep k6)
  have hA6 := Lib.hid (hA5.out.keep k6)
  have k6' := Lib.hid (k5'.out.trans k6)
  clear hR6 k6 hA5 hB5 k5' hL5
  go_wp2_with fail
  refine (to_any _ a _ hA6 (by omega)).mono ?_
  rintro e w7 ⟨p7, c7, rfl, hR7, k7⟩
  have hT7 := Lib.hid (hR7.at lineVals_len)
  have hA7 := Lib.hid (hA6.out.keep k7)
  have hL7 := Lib.hid (hL6.out.keep k7)
  have hW7 := Lib.hid (hW6.out.keep k7)
  have k7' := Lib.hid (k6'.out.trans k7)
  clear hR7 k7 hA6 hL6 hW6 k6'
  go_wp2_with fail
  refine (to_any _ a _ hA7 (by omega)).mono ?_
  rintro e w8 ⟨p8, c8, rfl, hR8, k8⟩
  have hU8 := Lib.hid (hR8.at lineVals_len)
  have hT8 := Lib.hid (hT7.out.keep k8)
  have hL8 := Lib.hid (hL7.out.keep k8)
  have hW8 := Lib.hid (hW7.out.keep k8)
  have k8' := Lib.hid (k7'.out.trans k8)
  clear hR8 k8 hT7 hL7 hW7 hA7 k7'
  go_wp2_with fail
  refine (plMake_g _ _ a a _ hT8 hU8 hra' hra').mono ?_
  rw [make_self]
  rintro e w9 ⟨p9, c9, rfl, -, k9⟩
  have hL9 := Lib.hid (hL8.out.keep k9)
  have hW9 := Lib.hid (hW8.out.keep k9)
  have k9' := Lib.hid (k8'.out.trans k9)
  clear k9 hT8 hU8 hL8 hW8 k8'
  generalize makeG a b = G at hL9 hW9 hgl hgT ⊢
  clear hgt
  go_wp2_with fail
  refine (plans_any _).mono ?_
  rintro e wa ⟨rfl, ka⟩
  have hLa := Lib.hid (hL9.out.keep ka)
  have hWa := Lib.hid (hW9.out.keep ka)
  have ka' := Lib.hid (k9'.out.trans ka)
  clear ka hL9 hW9 k9'
  go_wp2_with fail
  refine (from17_any _ G _ hLa (by omega)).mono ?_
  rintro e wb ⟨pf, cf, rfl, hF, kb⟩
  have hFb := Lib.hid (hF.at aVals_len)
  have hLb := Lib.hid (hLa.out.keep kb)
  have hWb := Lib.hid (hWa.out.keep kb)
  have kb' := Lib.hid (ka'.out.trans kb)
  clear hF kb hLa hWa ka'
  go_wp2_with fail
  refine (r17Same_refl _ _ G _ hFb hWb (by omega)).mono ?_
  rintro e wc ⟨rfl, kc⟩
  have hLc := Lib.hid (hLb.out.keep kc)
  have hWc := Lib.hid (hWb.out.keep kc)
  have kc' := Lib.hid (kb'.out.trans kc)
  clear hFb kc hLb hWb kb'
  obtain ⟨T, hT⟩ : ∃ T : ByteArray, T = ⟨(textF G).toArray⟩ := ⟨_, rfl⟩
  have hT' := Lib.hid hT
  clear hT
  go_wp2_with fail
  refine (plText_any _ G T _ hLc (by omega) (by omega) hT').mono ?_
  rintro e wd ⟨rfl, kd⟩
  have hLd := Lib.hid (hLc.out.keep kd)
  have hWd := Lib.hid (hWc.out.keep kd)
  have kd' := Lib.hid (kc'.out.trans kd)
  clear kd hLc hWc kc'
  go_wp2_with fail
  refine (r17Text_any _ G T _ hWd (by omega) (by omega) hT').mono ?_
  rintro e we ⟨rfl, ke⟩
  have hLe := Lib.hid (hLd.out.keep ke)
  have hWe := Lib.hid (hWd.out.keep ke)
  have ke' := Lib.hid (kd'.out.trans ke)
  clear ke hLd hWd kd' hT' hgT
  go_wp2_with fail
  refine (plBegins_any _ G _ hLe (by omega)).mono ?_
  rintro e wf ⟨pr, cr, ps, cs, rfl, hRs, hSs, kf⟩
  have hWf := Lib.hid (hWe.out.keep kf)
  have hRs' := Lib.hid hRs
  have hSs' := Lib.hid hSs
  have kf' := Lib.hid (ke'.out.trans kf)
  clear hRs hSs kf hLe hWe ke'
  obtain ⟨R, hR⟩ : ∃ R, resetsC G = R := ⟨_, rfl⟩
  obtain ⟨S, hS⟩ : ∃ S, restartsC G = S := ⟨_, rfl⟩
  obtain ⟨zw, hzw⟩ : ∃ z, wholeK G = z := ⟨_, rfl⟩
  rw [hR] at hRs' ⊢
  rw [hS] at hSs' ⊢
  rw [hzw]
  have hR' := Lib.hid hR
  have hS' := Lib.hid hS
  have hzw' := Lib.hid hzw
  have hRl : R.length ≤ 300 := by rw [← hR]; have h := flat_len (f := fun a : ActD => if a.kind = 5 then [a.name] else []) (fun c => by split <;> simp) G; unfold resetsC; omega
  have hSl : S.length ≤ 300 := by rw [← hS]; have h := flat_len (f := fun a : ActD => if a.kind = 3 ∨ a.kind = 4 then [a.name] else []) (fun c => by split <;> simp) G; unfold restartsC; omega
  clear hR hS hzw
  go_upto_region 8 with ((with_reducible refine at_store 12 ?_); refine wpList_store_new rfl 40 (.tmp 12) (.tmp 72) rfl _ #[.slice pr R.length cr, .slice ps S.length cs, .bool zw] rfl rfl restInfoM rfl (rest_one _ _ _ _ _ _ _) ?_)
  have hB0 : Hid (BlkAt (wf.alloc (.cells #[.slice pr R.length cr, .slice ps S.length cs, .bool zw] 40)) wf.heap.size 40 [.slice pr R.length cr, .slice ps S.length cs, .bool zw]) := Lib.hid (BlkAt.new _ _ _)
  have hRg := Lib.hid (hRs'.out.keep ((Keeps.refl (fun _ => False) _).alloc (.cells #[.slice pr R.length cr, .slice ps S.length cs, .bool zw] 40)))
  have hSg := Lib.hid (hSs'.out.keep ((Keeps.refl (fun _ => False) _).alloc (.cells #[.slice pr R.length cr, .slice ps S.length cs, .bool zw] 40)))
  have hWg := Lib.hid (hWf.out.keep ((Keeps.refl (fun _ => False) _).alloc (.cells #[.slice pr R.length cr, .slice ps S.length cs, .bool zw] 40)))
  have kg := Lib.hid (kf'.out.alloc (.cells #[.slice pr R.length cr, .slice ps S.length cs, .bool zw] 40))
  generalize hgw : wf.alloc (.cells #[.slice pr R.length cr, .slice ps S.length cs, .bool zw] 40) = wg at hB0 hRg hSg hWg kg ⊢
  generalize hgb : wf.heap.size = bl at hB0 ⊢
  clear hgw hgb hRs' hSs' hWf kf'
  go_wp2_with fail
  go_loopw [16, 13, 14, 15] (fun iv rv sv zv wr => ∃ (k : Nat), k ≤ G.length ∧ iv = .int .i64 k ∧ rv = .int .i64 (resetsC (G.take k)).length ∧ sv = .int .i64 (restartsC (G.take k)).length ∧ zv = .bool (wholeK (G.take k)) ∧ Hid (Keeps (fun _ => False) wg wr)) (fun iv _ _ _ _ => G.length - (intOf iv).toNat)
  case atStart => exact ⟨0, by omega, rfl, rfl, rfl, rfl, Lib.hid (Keeps.refl _ _)⟩
  case round =>
    obtain ⟨k, hk, rfl, rfl, rfl, rfl, hkw⟩ := hrel
    by_cases hlk : k < G.length
    · obtain ⟨x, hx⟩ : ∃ x, G[k]? = some x := ⟨_, List.getElem?_eq_getElem hlk⟩
      obtain ⟨N, hN⟩ : ∃ N : ByteArray, N = ⟨x.name.toArray⟩ := ⟨_, rfl⟩
      obtain ⟨gw, ow, rfl, hrr⟩ := hWg.out.open (by omega)
      have hNl : Hid (N.data.toList = x.name) := Lib.hid (by rw [hN])
      have hrow : Hid (wr.rangeAt gw (ow + k * 2) [.int .i64 x.kind, .string N]) := Lib.hid (by rw [hN]; exact hkw.out.rangeAt (hrr k x hx) id)
      have ck : wr.cell? ⟨gw, ow + k * 2, none⟩ = some (.int .i64 x.kind) := hrow.out 0 _ rfl
      have hst1 : (resetsC (G.take (k + 1))) = resetsC (G.take k) ++ (if x.kind = 5 then [x.name] else []) := flat_take _ hx
      have hst2 : (restartsC (G.take (k + 1))) = restartsC (G.take k) ++ (if x.kind = 3 ∨ x.kind = 4 then [x.name] else []) := flat_take _ hx
      have hst3 : wholeK (G.take (k + 1)) = (wholeK (G.take k) || decide (x.kind = 1)) := by
        obtain ⟨h2, e⟩ := List.getElem?_eq_some_iff.1 hx
        unfold wholeK
        rw [List.take_succ_eq_append_getElem h2, List.any_append, e]; simp
      have hp1 : R = resetsC (G.take k) ++ ((if x.kind = 5 then [x.name] else []) ++ resetsC (G.drop (k + 1))) := by rw [← hR'.out]; exact take_part hx
      have hp2 : S = restartsC (G.take k) ++ ((if x.kind = 3 ∨ x.kind = 4 then [x.name] else []) ++ restartsC (G.drop (k + 1))) := by rw [← hS'.out]; exact take_part hx
      obtain ⟨n1, hn1⟩ : ∃ n, (resetsC (G.take k)).length = n := ⟨_, rfl⟩
      obtain ⟨n2, hn2⟩ : ∃ n, (restartsC (G.take k)).length = n := ⟨_, rfl⟩
      obtain ⟨z3, hz3⟩ : ∃ z, wholeK (G.take k) = z := ⟨_, rfl⟩
      rw [hn1, hn2, hz3]
      have hn1l : n1 ≤ 300 := by have h := congrArg List.length hp1; rw [List.length_append, hn1] at h; omega
      have hn2l : n2 ≤ 300 := by have h := congrArg List.length hp2; rw [List.length_append, hn2] at h; omega
      rw [hz3] at hst3
      obtain ⟨kd, hkd⟩ : ∃ kd, x.kind = kd := ⟨_, rfl⟩
      rw [hkd] at ck hrow hst1 hst2 hst3 hp1 hp2
      have hst1' := Lib.hid hst1
      have hst2' := Lib.hid hst2
      have hst3' := Lib.hid hst3
      have hp1' := Lib.hid hp1
      have hp2' := Lib.hid hp2
      have hn1' := Lib.hid hn1
      have hn2' := Lib.hid hn2
      have hB := Lib.hid (hB0.out.keep hkw.out id)
      have m1 : (0 : Int) ≤ (k : Int) := by omega
      have m2 : (k : Int) < (G.length : Int) := by omega
      clear hN hrr hx hst1 hst2 hst3 hp1 hp2 hn1 hn2 hz3 hkd
      by_cases h1 : kd = 1
      · subst h1
        have g1 : Hid ((resetsC (G.take (k + 1))).length = n1) := Lib.hid (by rw [hst1'.out, if_neg (by decide), List.append_nil]; exact hn1'.out)
        have g2 : Hid ((restartsC (G.take (k + 1))).length = n2) := Lib.hid (by rw [hst2'.out, if_neg (by decide), List.append_nil]; exact hn2'.out)
        have g3 : Hid (wholeK (G.take (k + 1)) = true) := Lib.hid (by rw [hst3'.out]; simp)
        clear hst1' hst2' hst3' hp1' hp2' hn1' hn2' hB
        go_wp2_with fail
        exact ⟨⟨k + 1, by omega, by go_num, by rw [g1.out], by rw [g2.out], by rw [g3.out], hkw⟩, by simp [intOf]; omega⟩
      · have g3 : Hid (wholeK (G.take (k + 1)) = z3) := Lib.hid (by rw [hst3'.out, decide_eq_false h1]; simp)
        by_cases h34 : kd = 3 ∨ kd = 4
        · have g1 : Hid ((resetsC (G.take (k + 1))).length = n1) := Lib.hid (by rw [hst1'.out, if_neg (by omega), List.append_nil]; exact hn1'.out)
          have g2 : Hid ((restartsC (G.take (k + 1))).length = n2 + 1) := Lib.hid (by rw [hst2'.out, if_pos h34, List.length_append, hn2'.out]; rfl)
          have hSn : Hid (S.contains N.data.toList = true) := Lib.hid (by
            rw [hNl.out, hp2'.out, if_pos h34]; simp)
          have hS2 : n2 < S.length := by have h := congrArg List.length hp2'.out; rw [if_pos h34, List.length_append, hn2'.out] at h; simp at h; omega
          have e1 : (kd == 1) = false := by simpa using h1
          clear hst1' hst2' hst3' hp1' hp2' hn1' hn2' h1
          obtain ⟨wk, rfl⟩ : ∃ x, x = wr := ⟨_, rfl⟩
          go_upto_if 86 with fail
          go_cut [86] (fun tv wx => tv = .bool true ∧ wk = wx)
          case first =>
            rcases h34 with rfl | rfl
            · go_wp2_with fail
              go_meet
              case rel => exact ⟨rfl, rfl⟩
            · go_wp2_with fail
              go_meet
              case rel => exact ⟨rfl, rfl⟩
          case rest =>
            obtain ⟨rfl, rfl⟩ := hcut
            have c1 : wk.cell? ⟨bl, 1, none⟩ = some (.slice ps S.length cs) := hB.out.range 1 _ rfl
            have m5 : ¬ ((S.length : Int) ≤ (n2 : Int)) := by omega
            clear h34
            go_wp2_with fail
            go_loopw [18, 17] (fun jv fv wx => ∃ (j : Nat) (z : Bool), j ≤ S.length ∧ jv = .int .i64 j ∧ fv = .bool z ∧ Hid ((S.take j).contains N.data.toList = z) ∧ Hid (Keeps (fun _ => False) wk wx)) (fun jv _ _ => S.length - (intOf jv).toNat)
            case atStart => exact ⟨0, false, by omega, rfl, rfl, Lib.hid (by simp), Lib.hid (Keeps.refl _ _)⟩
            case round =>
              obtain ⟨j, z, hj, rfl, rfl, hz, hkj⟩ := hrel
              have cj : Hid (wr.cell? ⟨bl, 1, none⟩ = some (.slice ps S.length cs)) := Lib.hid ((hkj.out.cell (p := ⟨bl, 1, none⟩) (World.block_lt_of_cell? wk _ c1) id).trans c1)
              have cj' := cj.out
              by_cases hlj : j < S.length
              · obtain ⟨y, hy⟩ : ∃ y, S[j]? = some y := ⟨_, List.getElem?_eq_getElem hlj⟩
                obtain ⟨Yb, hYb⟩ : ∃ N : ByteArray, N = ⟨y.toArray⟩ := ⟨_, rfl⟩
                obtain ⟨gs, os, rfl, hrs⟩ := hSg.out.open (by omega)
                have cy : Hid (wr.cell? ⟨gs, os + j, none⟩ = some (.string Yb)) := Lib.hid (by
                  have h := (hkw.out.trans hkj.out).rangeAt (hrs j y hy) id 0 _ rfl
                  rw [Nat.mul_one, Nat.add_zero] at h
                  rw [hYb]; exact h)
                have cN : Hid (wr.cell? ⟨gw, ow + k * 2 + 1, none⟩ = some (.string N)) := Lib.hid (hkj.out.rangeAt hrow.out id 1 _ rfl)
                obtain ⟨zq, hzq⟩ : ∃ z, decide (Yb.data.toList = N.data.toList) = z := ⟨_, rfl⟩
                have eq1 := eq_list Yb N
                rw [hzq] at eq1
                have hz2 : Hid ((S.take (j + 1)).contains N.data.toList = (z || zq)) := Lib.hid (by
                  obtain ⟨h2, e⟩ := List.getElem?_eq_some_iff.1 hy
                  rw [List.take_succ_eq_append_getElem h2, e, ← hz.out, ← hzq, hYb]
                  by_cases hh : y = N.data.toList
                  · simp [hh]
                  · have h3 : ¬ N.data.toList = y := fun h => hh h.symm
                    simp [hh, h3])
                have q1 : (0 : Int) ≤ (j : Int) := by omega
                have q2 : (j : Int) < (S.length : Int) := by omega
                clear hrs hYb hy hzq hz
                go_upto_block 4 with fail
                go_cut [17] (fun tv wx => tv = .bool (z || zq) ∧ Hid (Keeps (fun _ => False) wr wx))
                case first =>
                  go_upto_region 24 with fail
                  refine wp_region_noPanic ?_
                  refine wp_region_held_drew (S := (fun W => Keeps (fun _ => False) wr W)) (by kernel_rfl) (((Keeps.refl _ _).drew)) (fun hHeld => ?_)
                  refine tk 0 rfl ?_
                  refine tk 1 rfl ?_
                  cases z with
                  | true =>
                    refine tkS 2 rfl ?_
                    refine tkS 3 rfl ?_
                    refine tkS 4 rfl ?_
                    refine tkS 5 rfl ?_
                    refine tkS 6 rfl ?_
                    refine tkS 7 rfl ?_
                    refine tkS 8 rfl ?_
                    refine tkS 9 rfl ?_
                    refine tkS 10 rfl ?_
                    refine tkS 11 rfl ?_
                    refine tkS 12 rfl ?_
                    refine tk 13 rfl ?_
                    refine tk 14 rfl ?_
                    refine wpAnyH_done (by kernel_rfl) (NoPanic.normal ?_) _
                    have hK := Lib.hid hHeld
                    clear hHeld
                    go_wp2_with fail
                    go_meet
                    case rel => exact ⟨rfl, hK⟩
                  | false =>
                    refine tk 2 rfl ?_
                    refine tkL 3 rfl (yieldsIf_load_cell (by rfl) 38 (.tmp 105) rfl bl 1 rfl _ (fun _ s => (s.cell (p := ⟨bl, 1, none⟩) (World.block_lt_of_cell? wr _ cj') id).trans cj') (fun w s => load_strings w _ _ _ s)) ?_
                    refine tk 4 rfl ?_
                    refine tk 5 rfl ?_
                    refine tkL 6 rfl (yieldsIf_load_cell (by rfl) 9 (.tmp 108) rfl gs (os + j) rfl _ (fun _ s => (s.cell (p := ⟨gs, os + j, none⟩) (World.block_lt_of_cell? wr _ cy.out) id).trans cy.out) (fun w s => load_str w _ _ _ s)) ?_
                    refine tk 7 rfl ?_
                    refine tk 8 rfl ?_
                    refine tk 9 rfl ?_
                    refine tk 10 rfl ?_
                    refine tkL 11 rfl (yieldsIf_load_cell (by rfl) 9 (.tmp 113) rfl gw (ow + k * 2 + 1) rfl _ (fun _ s => (s.cell (p := ⟨gw, ow + k * 2 + 1, none⟩) (World.block_lt_of_cell? wr _ cN.out) id).trans cN.out) (fun w s => load_str w _ _ _ s)) ?_
                    refine tk 12 rfl ?_
                    refine tk 13 rfl ?_
                    refine tk 14 rfl ?_
                    refine wpAnyH_done (by kernel_rfl) (NoPanic.normal ?_) _
                    have hK := Lib.hid hHeld
                    clear hHeld
                    cases zq with
                    | true =>
                      go_wp2_with fail
                      go_meet
                      case rel => exact ⟨rfl, hK⟩
                    | false =>
                      go_wp2_with fail
                      go_meet
                      case rel => exact ⟨rfl, hK⟩
                case rest =>
                  obtain ⟨rfl, hk2⟩ := hcut
                  have hk3 := Lib.hid (hkj.out.trans hk2.out)
                  clear hk2 cj cj' cy cN eq1 hkj
                  go_wp2_with fail
                  exact ⟨⟨j + 1, _, by omega, by go_num, rfl, hz2, hk3⟩, by simp [intOf]; omega⟩
              · have hzt : z = true := by
                  have h := hz.out
                  rw [List.take_of_length_le (by omega)] at h
                  rw [← h]; exact hSn.out
                subst hzt
                have q2 : ¬ (j : Int) < (S.length : Int) := by omega
                have hk3 := Lib.hid (hkw.out.trans hkj.out)
                clear hz hkj
                go_wp2_with fail
                exact ⟨⟨k + 1, by omega, by go_num, by rw [g1.out], by rw [g2.out]; go_num, by rw [g3.out], hk3⟩, by simp [intOf]; omega⟩
        · have g2 : Hid ((restartsC (G.take (k + 1))).length = n2) := Lib.hid (by rw [hst2'.out, if_neg h34, List.append_nil]; exact hn2'.out)
          by_cases h5 : kd = 5
          · subst h5
            have g1 : Hid ((resetsC (G.take (k + 1))).length = n1 + 1) := Lib.hid (by rw [hst1'.out, if_pos rfl, List.length_append, hn1'.out]; rfl)
            have hR1 : n1 < R.length := by have h := congrArg List.length hp1'.out; rw [if_pos rfl, List.length_append, hn1'.out] at h; simp at h; omega
            have hat : R[n1]? = some x.name := by
              rw [hp1'.out, List.getElem?_append_right (by rw [hn1'.out]; exact Nat.le_refl _), hn1'.out, Nat.sub_self, if_pos rfl]; rfl
            obtain ⟨gr, or_, rfl, hrr⟩ := hRg.out.open (by omega)
            have cy : Hid (wr.cell? ⟨gr, or_ + n1, none⟩ = some (.string N)) := Lib.hid (by
              have h := hkw.out.rangeAt (hrr n1 _ hat) id 0 _ rfl
              rw [Nat.mul_one, Nat.add_zero, ← hNl.out, strv_b] at h
              exact h)
            have cN : Hid (wr.cell? ⟨gw, ow + k * 2 + 1, none⟩ = some (.string N)) := Lib.hid (hrow.out 1 _ rfl)
            have c0 : wr.cell? ⟨bl, 0, none⟩ = some (.slice (some ⟨gr, or_, none⟩) R.length cr) := hB.out.range 0 _ rfl
            have m5 : ¬ ((R.length : Int) ≤ (n1 : Int)) := by omega
            have m6 : (0 : Int) ≤ (n1 : Int) := by omega
            have m7 : (n1 : Int) < (R.length : Int) := by omega
            have eN : (N.toList == N.toList) = true := by simp
            clear hst1' hst2' hst3' hp1' hp2' hn1' hn2' h1 h34 hrr hat
            go_upto_region 28 with fail
            go_cut [138] (fun tv wx => tv = .bool false ∧ Hid (Keeps (fun _ => False) wr wx))
            case first =>
              refine wp_region_noPanic ?_
              refine wp_region_held_drew (S := (fun W => Keeps (fun _ => False) wr W)) (by kernel_rfl) (((Keeps.refl _ _).drew)) (fun hHeld => ?_)
              refine tk 0 rfl ?_
              refine tk 1 rfl ?_
              refine tkL 2 rfl (yieldsIf_load_cell (by rfl) 38 (.tmp 122) rfl bl 0 rfl _ (fun _ s => (s.cell (p := ⟨bl, 0, none⟩) (World.block_lt_of_cell? wr _ c0) id).trans c0) (fun w s => load_strings w _ _ _ s)) ?_
              refine tk 3 rfl ?_
              refine tk 4 rfl ?_
              refine tk 5 rfl ?_
              refine tk 6 rfl ?_
              refine tkL 7 rfl (yieldsIf_load_cell (by rfl) 38 (.tmp 127) rfl bl 0 rfl _ (fun _ s => (s.cell (p := ⟨bl, 0, none⟩) (World.block_lt_of_cell? wr _ c0) id).trans c0) (fun w s => load_strings w _ _ _ s)) ?_
              refine tk 8 rfl ?_
              refine tk 9 rfl ?_
              refine tkL 10 rfl (yieldsIf_load_cell (by rfl) 9 (.tmp 130) rfl gr (or_ + n1) rfl _ (fun _ s => (s.cell (p := ⟨gr, or_ + n1, none⟩) (World.block_lt_of_cell? wr _ cy.out) id).trans cy.out) (fun w s => load_str w _ _ _ s)) ?_
              refine tk 11 rfl ?_
              refine tk 12 rfl ?_
              refine tk 13 rfl ?_
              refine tk 14 rfl ?_
              refine tkL 15 rfl (yieldsIf_load_cell (by rfl) 9 (.tmp 135) rfl gw (ow + k * 2 + 1) rfl _ (fun _ s => (s.cell (p := ⟨gw, ow + k * 2 + 1, none⟩) (World.block_lt_of_cell? wr _ cN.out) id).trans cN.out) (fun w s => load_str w _ _ _ s)) ?_
              refine tk 16 rfl ?_
              refine tk 17 rfl ?_
              refine wpAnyH_done (by kernel_rfl) (NoPanic.normal ?_) _
              have hK := Lib.hid hHeld
              clear hHeld
              go_wp2_with fail
              go_meet
              case rel => exact ⟨rfl, hK⟩
            case rest =>
              obtain ⟨rfl, hk2⟩ := hcut
              have hk3 := Lib.hid (hkw.out.trans hk2.out)
              clear hk2 cy cN c0 m5 m6 m7 hB hkw
              go_wp2_with fail
              exact ⟨⟨k + 1, by omega, by go_num, by rw [g1.out]; go_num, by rw [g2.out], by rw [g3.out], hk3⟩, by simp [intOf]; omega⟩
          · have g1 : Hid ((resetsC (G.take (k + 1))).length = n1) := Lib.hid (by rw [hst1'.out, if_neg h5, List.append_nil]; exact hn1'.out)
            have e1 : (kd == 1) = false := by simpa using h1
            have e3 : (kd == 3) = false := by simp; omega
            have e4 : (kd == 4) = false := by simp; omega
            have e5 : (kd == 5) = false := by simpa using h5
            clear hst1' hst2' hst3' hp1' hp2' hn1' hn2' hB h1 h34 h5
            go_wp2_with fail
            exact ⟨⟨k + 1, by omega, by go_num, by rw [g1.out], by rw [g2.out], by rw [g3.out], hkw⟩, by simp [intOf]; omega⟩
    · obtain rfl : k = G.length := by omega
      rw [List.take_length]
      have hB := hB0.out.keep hkw.out id
      have c0 : wr.cell? ⟨bl, 0, none⟩ = some (.slice pr R.length cr) := hB.range 0 _ rfl
      have c1 : wr.cell? ⟨bl, 1, none⟩ = some (.slice ps S.length cs) := hB.range 1 _ rfl
      have c2 : wr.cell? ⟨bl, 2, none⟩ = some (.bool zw) := hB.range 2 _ rfl
      have e1 : wholeK G = zw := hzw'.out
      have e2 : resetsC G = R := hR'.out
      have e3 : restartsC G = S := hS'.out
      rw [e1, e2, e3]
      have kz := Lib.hid (kg.out.trans hkw.out)
      clear hB e1 e2 e3 hlk hR' hS' hzw'
      go_wp2_with fail
      go_ret
      exact ⟨by simp, kz.out⟩
end Go.Proofs.YtmclnamgihphcaaGreat
