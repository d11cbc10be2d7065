/- LsdbOrders, walked (gen_ldk.py writes this). -/
import Derived.Test.YtiogeepffdpafaaLDJ
namespace Go.Proofs.Ytiogeepffdpafaa
open Go.RowKit

def iv64 (x : Int) : Value := .int .i64 x
/-- a slice of ints reads as these -/
def IntsAt (w : World) (v : Value) (xs : List Int) : Prop :=
  ∃ p c, v = .slice p xs.length c ∧ (p = none → c = 0) ∧ xs.length ≤ c ∧ (0 < xs.length → ∃ b o, p = some ⟨b, o, none⟩ ∧ w.rangeAt b o (xs.map iv64))
theorem tmod_lo (x : Int) : -1000 < Int.tmod x 1000 := by have := Int.tmod_lt_of_pos x (show (0 : Int) < 1000 by decide); have h2 := Int.lt_tmod_of_pos x (show (0 : Int) < 1000 by decide); omega
theorem tmod_hi (x : Int) : Int.tmod x 1000 < 1000 := Int.tmod_lt_of_pos x (by decide)
def dbL (k : Nat) (any : Bool) (most : Int) : List LsaD := if any then [mL k most] else []
theorem dbL_bare (k : Nat) (hk : k < 4294967296) (any : Bool) (most : Int) (h1 : -1000 < most) (h2 : most < 1000) : ∀ o ∈ dbL k any most, Bare o ∧ hA o ≤ 3600 := by
  intro o ho
  unfold dbL at ho
  cases any with
  | false => simp at ho
  | true => simp at ho; subst ho; exact ⟨mBare k most hk h1 h2, mAge k most⟩
def okB (any : Bool) (most s : Int) : Bool := !any || decide (most < s)
theorem dbL_put (k : Nat) (any : Bool) (most s : Int) (h1 : -1000 < s) (h2 : s < 1000) (h3 : -1000 < most) (h4 : most < 1000) : putD (dbL k any most) (mL k s) = (okB any most s, 0, dbL k true (if okB any most s then s else most)) := by
  unfold dbL okB
  cases any with
  | false => rfl
  | true =>
    simp only [if_true, Bool.not_true, Bool.false_or]
    rw [mPut k s most h1 h2 h3 h4]
    by_cases h : most < s <;> simp [h]
theorem dbL_find (k : Nat) (any : Bool) (most : Int) : findD (dbL k any most) 1 k 1 = (if any then mL k most else noneL, any) := by
  unfold dbL
  cases any with
  | false => rfl
  | true => exact mFind k most
set_option maxRecDepth 100000 in
set_option maxHeartbeats 4000000 in
theorem lLsdbOrders_walk (sl : Value) (xs : List Int) (key : Nat) (hk : key < 4294967296) (hl : xs.length ≤ 9223372036854775807) (w : World) (h : Hid (IntsAt w sl xs)) :
    Calls Try.prog 11 #[sl, .int .u32 key] w (fun e w' => e = .returned (.bool true) ∧ Keeps (fun _ => False) w w') := by
  obtain ⟨p, c, rfl, -, -, hr⟩ := h.out
  have hr' := Lib.hid hr
  obtain ⟨n, hn⟩ : ∃ n, xs.length = n := ⟨_, rfl⟩
  rw [hn] at hl ⊢
  have hn' := Lib.hid hn
  have hk' := Lib.hid hk
  clear hr h hn
  go_enter Try.func11, Try.ntmps11
  go_wp2_with fail
  refine (ldNew_any w).mono ?_
  rintro e w1 ⟨⟨b, r, rfl, hD, hb0, hr0⟩, k1⟩
  have hD' : Hid (DbAt w1 b r (dbL key false 0)) := Lib.hid hD
  have k1' := Lib.hid k1
  have hr0' := Lib.hid hr0
  clear hD hb0 hr0 k1
  go_wp2_with fail
  go_loopw [6, 7, 8] (fun mv av iv wr => ∃ (j : Nat) (most : Int) (any : Bool), j ≤ 40 ∧ mv = .int .i64 most ∧ av = .bool any ∧ iv = .int .i64 j ∧ Hid (-1000 < most ∧ most < 1000) ∧ Hid (any = false → most = 0) ∧ Hid (DbAt wr b r (dbL key any most)) ∧ Hid (Keeps (fun _ => False) w wr)) (fun _ _ iv _ => 41 - (intOf iv).toNat)
  case atStart => exact ⟨0, 0, false, by omega, rfl, rfl, rfl, Lib.hid (by omega), Lib.hid (fun _ => rfl), hD', k1'⟩
  case round =>
    obtain ⟨j, most, any, hj, rfl, rfl, rfl, hm, hany, hdb, hkr⟩ := hrel
    by_cases hjn : j < n ∧ j < 40
    · obtain ⟨h1, h2⟩ := hjn
      have h1i : (j : Int) < n := by omega
      have h2i : (j : Int) < 40 := by omega
      have hlt : j < xs.length := by rw [hn'.out]; exact h1
      obtain ⟨g, o, rfl, hrow⟩ := hr'.out (by omega)
      have hc := hkr.out.rangeAt hrow id j (iv64 xs[j]) (by simp [hlt])
      unfold iv64 at hc
      obtain ⟨x, hx⟩ : ∃ x, xs[j] = x := ⟨_, rfl⟩
      rw [hx] at hc
      obtain ⟨s, hs⟩ : ∃ s, Int.tmod x 1000 = s := ⟨_, rfl⟩
      have hs1 : -1000 < s := by rw [← hs]; exact tmod_lo x
      have hs2 : s < 1000 := by rw [← hs]; exact tmod_hi x
      have hb := Lib.hid (mBare key s hk'.out hs1 hs2)
      have hput := Lib.hid (dbL_put key any most s hs1 hs2 hm.out.1 hm.out.2)
      have hs12 := Lib.hid (And.intro hs1 hs2)
      clear hrow hlt hx hs1 hs2
      go_wp2_with fail
      refine (ldPut_bare b r (dbL key any most) _ (mL key s) hb.out (dbL_bare key hk'.out any most hm.out.1 hm.out.2) (mAge key s) (okB any most s) 0 wr hdb hput).mono ?_
      rintro e w2 ⟨rfl, hD2, k2⟩
      have hD2' := Lib.hid hD2
      have hk2 := Lib.hid (hkr.out.trans' k2 (fun i e => .inr (by rw [e]; exact hr0'.out)))
      clear hD2 k2 hb hput hdb hkr hs
      have hmost' : Hid (-1000 < (if okB any most s then s else most) ∧ (if okB any most s then s else most) < 1000) := Lib.hid (by split; exact hs12.out; exact hm.out)
      cases any with
      | false =>
        have he : okB false most s = true := rfl
        rw [he] at hD2' hmost' ⊢
        clear he hm hany hs12
        go_wp2_with fail
        exact ⟨⟨j + 1, s, true, by omega, rfl, rfl, by go_num, hmost', Lib.hid (fun e => by cases e), hD2', hk2⟩, by simp [intOf]; omega⟩
      | true =>
        by_cases hgt : s > most
        · have he : okB true most s = true := by unfold okB; simpa using hgt
          rw [he] at hD2' hmost' ⊢
          clear he hm hany hs12
          go_wp2_with fail
          exact ⟨⟨j + 1, s, true, by omega, rfl, rfl, by go_num, hmost', Lib.hid (fun e => by cases e), hD2', hk2⟩, by simp [intOf]; omega⟩
        · have he : okB true most s = false := by unfold okB; simpa using hgt
          rw [he] at hD2' hmost' ⊢
          clear he hm hany hs12
          go_wp2_with fail
          exact ⟨⟨j + 1, most, true, by omega, rfl, rfl, by go_num, hmost', Lib.hid (fun e => by cases e), hD2', hk2⟩, by simp [intOf]; omega⟩
    · have hrest : (j : Int) < n → ¬ (j : Int) < 40 := by omega
      clear hjn
      have hcond : (¬ (j : Int) < n) ∨ ((j : Int) < n ∧ ¬ (j : Int) < 40) := by
        by_cases h : (j : Int) < n
        · exact .inr ⟨h, hrest h⟩
        · exact .inl h
      clear hrest
      have hfind := Lib.hid (dbL_find key any most)
      rcases hcond with hc1 | ⟨hc1, hc2⟩
      · go_wp2_with fail
        refine (ldFind_bare b r (dbL key any most) 1 key 1 (if any then mL key most else noneL) any _ hdb hfind).mono ?_
        rintro e w2 ⟨rfl, k2⟩
        obtain ⟨o, ho⟩ : ∃ o, (if any then mL key most else noneL) = o := ⟨_, rfl⟩
        rw [ho]
        have hk2 := Lib.hid ((hkr.out.trans k2).alloc (.cells #[.int .i64 o.age, .int .i64 o.type, .int .u32 o.id, .int .u32 o.adv, .int .i64 o.seq, .slice none 0 0, .int .u32 o.mask, .slice none 0 0, .int .i64 o.cost] 36))
        have hO : Hid (BlkAt (w2.alloc (.cells #[.int .i64 o.age, .int .i64 o.type, .int .u32 o.id, .int .u32 o.adv, .int .i64 o.seq, .slice none 0 0, .int .u32 o.mask, .slice none 0 0, .int .i64 o.cost] 36)) w2.heap.size 36 [.int .i64 o.age, .int .i64 o.type, .int .u32 o.id, .int .u32 o.adv, .int .i64 o.seq, .slice none 0 0, .int .u32 o.mask, .slice none 0 0, .int .i64 o.cost]) := Lib.hid (BlkAt.new w2 36 [.int .i64 o.age, .int .i64 o.type, .int .u32 o.id, .int .u32 o.adv, .int .i64 o.seq, .slice none 0 0, .int .u32 o.mask, .slice none 0 0, .int .i64 o.cost])
        have hos : Hid (any = true → o.seq = most) := Lib.hid (fun e => by rw [← ho, e]; rfl)
        clear k2 ho hkr hdb hfind hany hm
        unfold bareV
        go_wp2_with ((with_reducible refine at_store 12 ?_); refine wpList_store_new rfl 36 (.tmp 12) (.tmp 65) rfl _ _ rfl rfl lsaInfo rfl (lsa_one _ _ _ _ _ _ _ _ _ (slice_one _ _ _) (slice_one _ _ _)) ?_)
        refine (lwKeeps_any _).mono ?_
        rintro e w3 ⟨rfl, k3⟩
        have hk3 := Lib.hid (hk2.out.trans k3)
        have hc4 := (hO.out.keep k3 id).cell 4 (.int .i64 o.seq) rfl
        clear k3 hk2 hO
        cases any with
        | false =>
          go_wp2_with fail
          go_ret
          exact ⟨rfl, hk3.out⟩
        | true =>
          have e4 : (o.seq == most) = true := by rw [hos.out rfl]; simp
          clear hos
          go_wp2_with fail
          go_ret
          exact ⟨rfl, hk3.out⟩
      · go_wp2_with fail
        refine (ldFind_bare b r (dbL key any most) 1 key 1 (if any then mL key most else noneL) any _ hdb hfind).mono ?_
        rintro e w2 ⟨rfl, k2⟩
        obtain ⟨o, ho⟩ : ∃ o, (if any then mL key most else noneL) = o := ⟨_, rfl⟩
        rw [ho]
        have hk2 := Lib.hid ((hkr.out.trans k2).alloc (.cells #[.int .i64 o.age, .int .i64 o.type, .int .u32 o.id, .int .u32 o.adv, .int .i64 o.seq, .slice none 0 0, .int .u32 o.mask, .slice none 0 0, .int .i64 o.cost] 36))
        have hO : Hid (BlkAt (w2.alloc (.cells #[.int .i64 o.age, .int .i64 o.type, .int .u32 o.id, .int .u32 o.adv, .int .i64 o.seq, .slice none 0 0, .int .u32 o.mask, .slice none 0 0, .int .i64 o.cost] 36)) w2.heap.size 36 [.int .i64 o.age, .int .i64 o.type, .int .u32 o.id, .int .u32 o.adv, .int .i64 o.seq, .slice none 0 0, .int .u32 o.mask, .slice none 0 0, .int .i64 o.cost]) := Lib.hid (BlkAt.new w2 36 [.int .i64 o.age, .int .i64 o.type, .int .u32 o.id, .int .u32 o.adv, .int .i64 o.seq, .slice none 0 0, .int .u32 o.mask, .slice none 0 0, .int .i64 o.cost])
        have hos : Hid (any = true → o.seq = most) := Lib.hid (fun e => by rw [← ho, e]; rfl)
        clear k2 ho hkr hdb hfind hany hm
        unfold bareV
        go_wp2_with ((with_reducible refine at_store 12 ?_); refine wpList_store_new rfl 36 (.tmp 12) (.tmp 65) rfl _ _ rfl rfl lsaInfo rfl (lsa_one _ _ _ _ _ _ _ _ _ (slice_one _ _ _) (slice_one _ _ _)) ?_)
        refine (lwKeeps_any _).mono ?_
        rintro e w3 ⟨rfl, k3⟩
        have hk3 := Lib.hid (hk2.out.trans k3)
        have hc4 := (hO.out.keep k3 id).cell 4 (.int .i64 o.seq) rfl
        clear k3 hk2 hO
        cases any with
        | false =>
          go_wp2_with fail
          go_ret
          exact ⟨rfl, hk3.out⟩
        | true =>
          have e4 : (o.seq == most) = true := by rw [hos.out rfl]; simp
          clear hos
          go_wp2_with fail
          go_ret
          exact ⟨rfl, hk3.out⟩
end Go.Proofs.Ytiogeepffdpafaa
