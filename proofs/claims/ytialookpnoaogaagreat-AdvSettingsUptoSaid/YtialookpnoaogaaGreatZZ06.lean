/- Numbers, addresses and nets, as plain lists of bytes. -/
import Derived.Test.YtialookpnoaogaaGreatZZ05
set_option linter.unusedVariables false
set_option linter.unusedSimpArgs false
namespace Go.Proofs.YtialookpnoaogaaGreat

def digB (c : UInt8) : Bool := decide (48 ≤ c.toNat ∧ c.toNat ≤ 57)
def decVal (l : List UInt8) : Nat := l.foldl (fun n c => n * 10 + (c.toNat - 48)) 0
theorem decVal_snoc (l : List UInt8) (c : UInt8) : decVal (l ++ [c]) = decVal l * 10 + (c.toNat - 48) := by unfold decVal; rw [List.foldl_append]; rfl
theorem decVal_lt (n : Nat) : ∀ l : List UInt8, l.length = n → l.all digB = true → decVal l < 10 ^ n := by
  induction n with
  | zero => intro l hl _; have : l = [] := List.eq_nil_of_length_eq_zero hl; subst this; simp [decVal]
  | succ n ih =>
    intro l hl ha
    have hne : l ≠ [] := by rintro rfl; simp at hl
    have e := List.dropLast_concat_getLast hne
    rw [← e] at ha ⊢
    rw [List.all_append] at ha
    simp only [Bool.and_eq_true] at ha
    have h1 := ih l.dropLast (by simp [hl]) ha.1
    have h2 : digB (l.getLast hne) = true := by simpa using ha.2
    unfold digB at h2
    rw [decide_eq_true_eq] at h2
    rw [decVal_snoc, Nat.pow_succ]; omega
/-- may this be a number: its length, and no needless nought -/
def decShape (l : List UInt8) : Bool := decide (1 ≤ l.length ∧ l.length ≤ 9 ∧ ¬ (1 < l.length ∧ l.head? = some 48))
def decL (l : List UInt8) : Option Nat := if decShape l && l.all digB then some (decVal l) else none
theorem decL_lt {l : List UInt8} {n : Nat} (h : decL l = some n) : n < 1000000000 := by
  unfold decL at h
  split at h
  · rename_i h'
    simp only [Bool.and_eq_true] at h'
    have h1 := decVal_lt _ l rfl h'.2
    have h2 : l.length ≤ 9 := by have := h'.1; unfold decShape at this; rw [decide_eq_true_eq] at this; exact this.2.1
    injection h with h; subst h
    have : (10 : Nat) ^ l.length ≤ 10 ^ 9 := Nat.pow_le_pow_right (by omega) h2
    omega
  · cases h
theorem decL_digs {l : List UInt8} {n : Nat} (h : decL l = some n) : l.all digB = true := by
  unfold decL at h
  split at h
  · rename_i h'; simp only [Bool.and_eq_true] at h'; exact h'.2
  · cases h
theorem decL_no {l : List UInt8} {n : Nat} (h : decL l = some n) {c : UInt8} (hc : digB c = false) : c ∉ l := by
  intro hm
  have := List.all_eq_true.1 (decL_digs h) c hm
  rw [hc] at this; cases this

/-- the parts of a text at a sign -/
def partsL (c : UInt8) : List UInt8 → List (List UInt8)
  | [] => [[]]
  | b :: l => if b = c then [] :: partsL c l else match partsL c l with
    | p :: ps => (b :: p) :: ps
    | [] => [[b]]
theorem partsL_ne (c : UInt8) (l : List UInt8) : partsL c l ≠ [] := by
  cases l with
  | nil => simp [partsL]
  | cons b l =>
    unfold partsL
    split
    · simp
    · split <;> simp
theorem before_cons_ne {c b : UInt8} {l : List UInt8} (h : b ≠ c) : before c (b :: l) = before c l + 1 := by
  unfold before; rw [List.takeWhile_cons, if_pos (by simpa using h)]; rfl
theorem before_cons_eq {c : UInt8} {l : List UInt8} : before c (c :: l) = 0 := by
  unfold before; rw [List.takeWhile_cons, if_neg (by simp)]; rfl
theorem partsL_no {c : UInt8} {l : List UInt8} (h : c ∉ l) : partsL c l = [l] := by
  induction l with
  | nil => rfl
  | cons b l ih =>
    have hb : b ≠ c := by rintro rfl; exact h (by simp)
    have hl : c ∉ l := fun m => h (by simp [m])
    unfold partsL
    rw [if_neg hb, ih hl]
theorem partsL_yes {c : UInt8} {l : List UInt8} (h : c ∈ l) : partsL c l = l.take (before c l) :: partsL c (l.drop (before c l + 1)) := by
  induction l with
  | nil => cases h
  | cons b l ih =>
    by_cases hb : b = c
    · subst hb
      rw [before_cons_eq]
      simp [partsL]
    · have hl : c ∈ l := by rcases List.mem_cons.1 h with h | h; exact (hb h.symm).elim; exact h
      rw [before_cons_ne hb, show partsL c (b :: l) = (if b = c then [] :: partsL c l else match partsL c l with
        | p :: ps => (b :: p) :: ps
        | [] => [[b]]) from rfl, if_neg hb, ih hl]
      simp
/-- the parts of a text with one byte more -/
def pushLast (b : UInt8) : List (List UInt8) → List (List UInt8)
  | [] => [[b]]
  | [p] => [p ++ [b]]
  | p :: q :: ps => p :: pushLast b (q :: ps)
theorem pushLast_snoc (b : UInt8) (ps : List (List UInt8)) (p : List UInt8) : pushLast b (ps ++ [p]) = ps ++ [p ++ [b]] := by
  induction ps with
  | nil => rfl
  | cons q ps ih =>
    cases ps with
    | nil => rfl
    | cons r ps => show q :: pushLast b (r :: ps ++ [p]) = _; rw [ih]; rfl
theorem partsL_snoc (c b : UInt8) (l : List UInt8) : partsL c (l ++ [b]) = if b = c then partsL c l ++ [[]] else pushLast b (partsL c l) := by
  induction l with
  | nil =>
    by_cases h : b = c
    · subst h; simp [partsL]
    · simp [partsL, h, pushLast]
  | cons a l ih =>
    rw [List.cons_append]
    have hne := partsL_ne c l
    by_cases ha : a = c
    · subst ha
      unfold partsL
      rw [if_pos rfl, if_pos rfl, ih]
      by_cases h : b = a
      · rw [if_pos h, if_pos h]; rfl
      · rw [if_neg h, if_neg h]
        cases hp : partsL a l with
        | nil => exact (hne hp).elim
        | cons p ps => rfl
    · unfold partsL
      rw [if_neg ha, if_neg ha, ih]
      cases hp : partsL c l with
      | nil => exact (hne hp).elim
      | cons p ps =>
        by_cases h : b = c
        · rw [if_pos h, if_pos h]; rfl
        · rw [if_neg h, if_neg h]
          cases ps with
          | nil => rfl
          | cons q ps => rfl

/-- a number of parts, each from 0 to 255 -/
def foldParts (n : Nat) : List (List UInt8) → Option Nat
  | [] => some n
  | p :: ps => match decL p with
    | some b => if b ≤ 255 then foldParts (n * 256 + b) ps else none
    | none => none
/-- as the code reads it: k parts are to come -/
def addrGo : Nat → Nat → List UInt8 → Option Nat
  | 0, n, _ => some n
  | k + 1, n, s => match decL (if 46 ∈ s then s.take (before 46 s) else s) with
    | some b => if b ≤ 255 ∧ (46 ∈ s ↔ k ≠ 0) then addrGo k (n * 256 + b) (if 46 ∈ s then s.drop (before 46 s + 1) else []) else none
    | none => none
def addrL (l : List UInt8) : Option Nat := addrGo 4 0 l
theorem addrGo_yes {k n : Nat} {s : List UInt8} (h : 46 ∈ s) : addrGo (k + 1) n s = match decL (s.take (before 46 s)) with
    | some b => if b ≤ 255 ∧ k ≠ 0 then addrGo k (n * 256 + b) (s.drop (before 46 s + 1)) else none
    | none => none := by
  rw [addrGo]; simp only [h, if_true, true_iff]
theorem addrGo_no {k n : Nat} {s : List UInt8} (h : 46 ∉ s) : addrGo (k + 1) n s = match decL s with
    | some b => if b ≤ 255 ∧ k = 0 then addrGo k (n * 256 + b) [] else none
    | none => none := by
  rw [addrGo]; simp only [h, if_false, false_iff, Decidable.not_not]
theorem addrGo_eq (k : Nat) : ∀ (n : Nat) (s : List UInt8), addrGo (k + 1) n s = if (partsL 46 s).length = k + 1 then foldParts n (partsL 46 s) else none := by
  induction k with
  | zero =>
    intro n s
    by_cases h : 46 ∈ s
    · have e := partsL_yes h
      have hne := partsL_ne 46 (s.drop (before 46 s + 1))
      have hl : (partsL 46 s).length ≠ 0 + 1 := by
        rw [e]; cases hq : partsL 46 (s.drop (before 46 s + 1)) with | nil => exact (hne hq).elim | cons => simp
      rw [addrGo_yes h, if_neg hl]
      cases decL (s.take (before 46 s)) <;> simp
    · rw [addrGo_no h, partsL_no h, if_pos (by simp)]
      cases hd : decL s <;> simp [foldParts, hd, addrGo]
  | succ k ih =>
    intro n s
    by_cases h : 46 ∈ s
    · have e := partsL_yes h
      rw [addrGo_yes h, e]
      cases hd : decL (s.take (before 46 s)) with
      | none => simp [foldParts, hd]
      | some b =>
        simp only [foldParts, hd, List.length_cons]
        by_cases hb : b ≤ 255
        · rw [if_pos ⟨hb, by omega⟩, if_pos hb, ih]
          by_cases hl : (partsL 46 (s.drop (before 46 s + 1))).length = k + 1
          · rw [if_pos hl, if_pos (by omega)]
          · rw [if_neg hl, if_neg (by omega)]
        · rw [if_neg (fun x => hb x.1), if_neg hb]; simp
    · rw [addrGo_no h, partsL_no h, if_neg (by simp)]
      cases decL s <;> simp
theorem addrL_eq (l : List UInt8) : addrL l = if (partsL 46 l).length = 4 then foldParts 0 (partsL 46 l) else none := addrGo_eq 3 0 l
theorem foldParts_lt : ∀ (ps : List (List UInt8)) (n m : Nat), foldParts n ps = some m → m < (n + 1) * 256 ^ ps.length := by
  intro ps
  induction ps with
  | nil => intro n m h; simp [foldParts] at h; subst h; simp
  | cons p ps ih =>
    intro n m h
    unfold foldParts at h
    cases hd : decL p with
    | none => rw [hd] at h; cases h
    | some b =>
      rw [hd] at h
      simp only at h
      split at h
      · have := ih _ _ h
        refine Nat.lt_of_lt_of_le this ?_
        rw [List.length_cons, Nat.pow_succ, Nat.mul_comm (256 ^ ps.length), ← Nat.mul_assoc]
        exact Nat.mul_le_mul_right _ (by omega)
      · cases h
theorem addrL_lt {l : List UInt8} {n : Nat} (h : addrL l = some n) : n < 4294967296 := by
  rw [addrL_eq] at h
  split at h
  · rename_i hl
    have h1 := foldParts_lt _ _ _ h
    have h2 : (0 + 1) * 256 ^ (partsL 46 l).length = 4294967296 := by rw [hl]
    rw [h2] at h1
    exact h1
  · cases h

/-- an address and a length -/
def netL (l : List UInt8) : Option (Nat × Nat) :=
  if 47 ∈ l then match addrL (l.take (before 47 l)), decL (l.drop (before 47 l + 1)) with
    | some a, some n => if 1 ≤ n ∧ n ≤ 32 then some (a, n) else none
    | _, _ => none
  else none
/-- as the document reads it -/
def netParts : List (List UInt8) → Option (Nat × Nat)
  | [p, q] => match addrL p, decL q with
    | some a, some n => if 1 ≤ n ∧ n ≤ 32 then some (a, n) else none
    | _, _ => none
  | _ => none
theorem netL_eq (l : List UInt8) : netL l = netParts (partsL 47 l) := by
  unfold netL
  by_cases h : 47 ∈ l
  · rw [if_pos h, partsL_yes h]
    by_cases h2 : 47 ∈ l.drop (before 47 l + 1)
    · have hd : decL (l.drop (before 47 l + 1)) = none := by
        cases hd : decL (l.drop (before 47 l + 1)) with
        | none => rfl
        | some n => exact (decL_no hd (c := 47) (by decide) h2).elim
      rw [hd, partsL_yes h2]
      have hne := partsL_ne 47 ((l.drop (before 47 l + 1)).drop (before 47 (l.drop (before 47 l + 1)) + 1))
      cases hq : partsL 47 ((l.drop (before 47 l + 1)).drop (before 47 (l.drop (before 47 l + 1)) + 1)) with
      | nil => exact (hne hq).elim
      | cons a b => cases addrL (l.take (before 47 l)) <;> rfl
    · rw [partsL_no h2]; rfl
  · rw [if_neg h, partsL_no h]; rfl
end Go.Proofs.YtialookpnoaogaaGreat
/- schema.Decimal, and the document's, walked. -/
namespace Go.Proofs.YtialookpnoaogaaGreat
open Go.RowKit

def decRes : Option Nat → Value
  | some n => .tuple #[.int .i64 (n : Nat), .bool true]
  | none => .tuple #[.int .i64 0, .bool false]

theorem dec_none_len (s : ByteArray) (w : World) (h : s.size < 1 ∨ 9 < s.size) :
    Calls Tryz.prog 55 #[.string s] w fun e w' => e = .returned (.tuple #[.int .i64 0, .bool false]) ∧ w = w' := by
  by_cases h1 : s.size < 1
  · have h2 : s.size ≤ 9 := by omega
    clear h
    go_enter Tryz.func55, Tryz.ntmps55
    go_wp2
    go_ret2
    exact ⟨rfl, rfl⟩
  · have h2 : 9 < s.size := by omega
    clear h
    go_enter Tryz.func55, Tryz.ntmps55
    go_wp2
    go_ret2
    exact ⟨rfl, rfl⟩
theorem dec_none_nought (s : ByteArray) (w : World) (h1 : 1 < s.size) (h9 : s.size ≤ 9) (h0 : Hid (s[0].toNat = 48)) :
    Calls Tryz.prog 55 #[.string s] w fun e w' => e = .returned (.tuple #[.int .i64 0, .bool false]) ∧ w = w' := by
  have d : ((s[0].toNat : Int) == 48) = true := by rw [h0.out]; rfl
  go_enter Tryz.func55, Tryz.ntmps55
  go_wp2
  go_ret2
  exact ⟨rfl, rfl⟩
set_option maxRecDepth 100000 in
theorem dec_shape (s : ByteArray) (r : Option Nat) (w : World) (h1 : 1 ≤ s.size) (h9 : s.size ≤ 9) (hsh : s.size = 1 ∨ ∃ h : 0 < s.size, s[0].toNat ≠ 48) (hr : Hid (r = if s.data.toList.all digB then some (decVal s.data.toList) else none)) :
    Calls Tryz.prog 55 #[.string s] w fun e w' => e = .returned (decRes r) ∧ w = w' := by
  have hA : s.size ≤ 1 ∨ (1 < s.size ∧ ∃ h : 0 < s.size, ((s[0].toNat : Int) == 48) = false) := by
    by_cases h : s.size ≤ 1
    · exact .inl h
    · refine .inr ⟨by omega, by omega, ?_⟩
      rcases hsh with hs | ⟨h0, hs⟩
      · omega
      · rw [beq_eq_false_iff_ne]; omega
  clear hsh
  rcases hA with hA | ⟨hA, _, hA2⟩
  all_goals
    go_enter Tryz.func55, Tryz.ntmps55
    go_wp2
    go_loop [4, 26] (fun nv iv => ∃ k : Nat, k ≤ s.size ∧ nv = .int .i64 (decVal (s.data.toList.take k) : Nat) ∧ iv = .int .i64 k ∧ Hid ((s.data.toList.take k).all digB = true)) (fun _ iv => s.size - (intOf iv).toNat)
    case atStart => exact ⟨0, by omega, by simp [decVal], rfl, Lib.hid (by simp)⟩
    case round =>
      obtain ⟨k, hk, rfl, rfl, hall⟩ := hrel
      by_cases hlt : k < s.size
      · have hl : k < s.data.toList.length := by simpa using hlt
        have hgk : s.data.toList[k] = s[k] := by rw [Array.getElem_toList]; rfl
        have hts : s.data.toList.take (k + 1) = s.data.toList.take k ++ [s[k]] := by rw [List.take_succ_eq_append_getElem hl, hgk]
        by_cases hd : digB s[k] = true
        · have hm : decVal (s.data.toList.take k) < 1000000000 := by
            have h1 := decVal_lt _ _ rfl hall.out
            have h2 : (s.data.toList.take k).length ≤ 9 := by simp; omega
            have : (10 : Nat) ^ (s.data.toList.take k).length ≤ 10 ^ 9 := Nat.pow_le_pow_right (by omega) h2
            omega
          have hv := decVal_snoc (s.data.toList.take k) s[k]
          rw [← hts] at hv
          have hall' : Hid ((s.data.toList.take (k + 1)).all digB = true) := Lib.hid (by rw [hts, List.all_append, hall.out]; simp [hd])
          have hdd := hd
          unfold digB at hdd
          rw [decide_eq_true_eq] at hdd
          obtain ⟨hd1, hd2⟩ := hdd
          obtain ⟨m, hme⟩ : ∃ m, m = decVal (s.data.toList.take k) := ⟨_, rfl⟩
          rw [← hme] at hm hv ⊢
          have hv' := Lib.hid hv; clear hv hme hts hgk hall hd
          go_wp2
          go_round
          case rel => exact ⟨k + 1, by omega, by rw [hv'.out]; congr 1; omega, by go_num, hall'⟩
          case measure => simp [intOf]; omega
        · have hr' : Hid (r = none) := Lib.hid (by
            rw [hr.out, if_neg]
            intro h
            apply hd
            have := List.all_eq_true.1 h s[k] (by rw [← hgk]; exact List.getElem_mem hl)
            exact this)
          have hdd : s[k].toNat < 48 ∨ (48 ≤ s[k].toNat ∧ 57 < s[k].toNat) := by
            unfold digB at hd
            rw [decide_eq_true_eq] at hd
            omega
          clear hd hts hgk
          rcases hdd with hd1 | ⟨hd1, hd2⟩
          · go_wp2
            go_ret2
            exact ⟨by rw [hr'.out]; rfl, rfl⟩
          · go_wp2
            go_ret2
            exact ⟨by rw [hr'.out]; rfl, rfl⟩
      · obtain rfl : k = s.size := by omega
        have ht : s.data.toList.take s.size = s.data.toList := List.take_of_length_le (by simp)
        have hr' : Hid (r = some (decVal s.data.toList)) := Lib.hid (by
          have := hall.out
          rw [ht] at this
          rw [hr.out, if_pos this])
        rw [ht]
        clear ht hall
        go_wp2
        go_ret2
        exact ⟨by rw [hr'.out]; rfl, rfl⟩
theorem dec_r (s : ByteArray) (r : Option Nat) (w : World) (hr : Hid (decL s.data.toList = r)) :
    Calls Tryz.prog 55 #[.string s] w fun e w' => e = .returned (decRes r) ∧ w = w' := by
  have hr := hr.out
  unfold decL decShape at hr
  have hl : s.data.toList.length = s.size := by simp
  rw [hl] at hr
  by_cases h : 1 ≤ s.size ∧ s.size ≤ 9
  · obtain ⟨h1, h9⟩ := h
    have h00 : 0 < s.size := by omega
    have hh : s.data.toList.head? = some s[0] := by
      have : s.data.toList[0]? = some s[0] := by
        rw [List.getElem?_eq_getElem (by simpa using h00), Array.getElem_toList]; rfl
      rw [List.head?_eq_getElem?, this]
    rw [hh] at hr
    by_cases h0 : 1 < s.size ∧ s[0].toNat = 48
    · have : r = none := by
        rw [← hr, if_neg]
        have : s[0] = 48 := UInt8.toNat_inj.mp h0.2
        simp [h0.1, this]
      subst this
      exact (dec_none_nought s w h0.1 h9 (Lib.hid h0.2)).mono fun e w' h => h
    · refine dec_shape s r w h1 h9 ?_ (Lib.hid ?_)
      · by_cases h1' : s.size = 1
        · exact .inl h1'
        · exact .inr ⟨h00, fun e => h0 ⟨by omega, e⟩⟩
      · rw [← hr]
        have hd : decide (1 ≤ s.size ∧ s.size ≤ 9 ∧ ¬ (1 < s.size ∧ some s[0] = some (48 : UInt8))) = true := by
          rw [decide_eq_true_eq]
          refine ⟨h1, h9, fun ⟨a, b⟩ => h0 ⟨a, ?_⟩⟩
          injection b with b
          rw [b]; rfl
        rw [hd, Bool.true_and]
  · have : r = none := by rw [← hr, if_neg]; simp; omega
    subst this
    exact (dec_none_len s w (by omega)).mono fun e w' h => h

theorem rDec_none_len (s : ByteArray) (w : World) (h : s.size < 1 ∨ 9 < s.size) :
    Calls Tryz.prog 69 #[.string s] w fun e w' => e = .returned (.tuple #[.int .i64 0, .bool false]) ∧ w = w' := by
  by_cases h1 : s.size < 1
  · have h2 : s.size ≤ 9 := by omega
    clear h
    go_enter Tryz.func69, Tryz.ntmps69
    go_wp2
    go_ret2
    exact ⟨rfl, rfl⟩
  · have h2 : 9 < s.size := by omega
    clear h
    go_enter Tryz.func69, Tryz.ntmps69
    go_wp2
    go_ret2
    exact ⟨rfl, rfl⟩
theorem rDec_none_nought (s : ByteArray) (w : World) (h1 : 1 < s.size) (h9 : s.size ≤ 9) (h0 : Hid (s[0].toNat = 48)) :
    Calls Tryz.prog 69 #[.string s] w fun e w' => e = .returned (.tuple #[.int .i64 0, .bool false]) ∧ w = w' := by
  have d : ((s[0].toNat : Int) == 48) = true := by rw [h0.out]; rfl
  go_enter Tryz.func69, Tryz.ntmps69
  go_wp2
  go_ret2
  exact ⟨rfl, rfl⟩
set_option maxRecDepth 100000 in
theorem rDec_shape (s : ByteArray) (r : Option Nat) (w : World) (h1 : 1 ≤ s.size) (h9 : s.size ≤ 9) (hsh : s.size = 1 ∨ ∃ h : 0 < s.size, s[0].toNat ≠ 48) (hr : Hid (r = if s.data.toList.all digB then some (decVal s.data.toList) else none)) :
    Calls Tryz.prog 69 #[.string s] w fun e w' => e = .returned (decRes r) ∧ w = w' := by
  have hA : s.size ≤ 1 ∨ (1 < s.size ∧ ∃ h : 0 < s.size, ((s[0].toNat : Int) == 48) = false) := by
    by_cases h : s.size ≤ 1
    · exact .inl h
    · refine .inr ⟨by omega, by omega, ?_⟩
      rcases hsh with hs | ⟨h0, hs⟩
      · omega
      · rw [beq_eq_false_iff_ne]; omega
  clear hsh
  rcases hA with hA | ⟨hA, _, hA2⟩
  all_goals
    go_enter Tryz.func69, Tryz.ntmps69
    go_wp2
    go_loop [4, 5] (fun nv iv => ∃ k : Nat, k ≤ s.size ∧ nv = .int .i64 (decVal (s.data.toList.take k) : Nat) ∧ iv = .int .i64 k ∧ Hid ((s.data.toList.take k).all digB = true)) (fun _ iv => s.size - (intOf iv).toNat)
    case atStart => exact ⟨0, by omega, by simp [decVal], rfl, Lib.hid (by simp)⟩
    case round =>
      obtain ⟨k, hk, rfl, rfl, hall⟩ := hrel
      by_cases hlt : k < s.size
      · have hl : k < s.data.toList.length := by simpa using hlt
        have hgk : s.data.toList[k] = s[k] := by rw [Array.getElem_toList]; rfl
        have hts : s.data.toList.take (k + 1) = s.data.toList.take k ++ [s[k]] := by rw [List.take_succ_eq_append_getElem hl, hgk]
        by_cases hd : digB s[k] = true
        · have hm : decVal (s.data.toList.take k) < 1000000000 := by
            have h1 := decVal_lt _ _ rfl hall.out
            have h2 : (s.data.toList.take k).length ≤ 9 := by simp; omega
            have : (10 : Nat) ^ (s.data.toList.take k).length ≤ 10 ^ 9 := Nat.pow_le_pow_right (by omega) h2
            omega
          have hv := decVal_snoc (s.data.toList.take k) s[k]
          rw [← hts] at hv
          have hall' : Hid ((s.data.toList.take (k + 1)).all digB = true) := Lib.hid (by rw [hts, List.all_append, hall.out]; simp [hd])
          have hdd := hd
          unfold digB at hdd
          rw [decide_eq_true_eq] at hdd
          obtain ⟨hd1, hd2⟩ := hdd
          obtain ⟨m, hme⟩ : ∃ m, m = decVal (s.data.toList.take k) := ⟨_, rfl⟩
          rw [← hme] at hm hv ⊢
          have hv' := Lib.hid hv; clear hv hme hts hgk hall hd
          go_wp2
          go_round
          case rel => exact ⟨k + 1, by omega, by rw [hv'.out]; congr 1; omega, by go_num, hall'⟩
          case measure => simp [intOf]; omega
        · have hr' : Hid (r = none) := Lib.hid (by
            rw [hr.out, if_neg]
            intro h
            apply hd
            have := List.all_eq_true.1 h s[k] (by rw [← hgk]; exact List.getElem_mem hl)
            exact this)
          have hdd : s[k].toNat < 48 ∨ (48 ≤ s[k].toNat ∧ 57 < s[k].toNat) := by
            unfold digB at hd
            rw [decide_eq_true_eq] at hd
            omega
          clear hd hts hgk
          rcases hdd with hd1 | ⟨hd1, hd2⟩
          · go_wp2
            go_ret2
            exact ⟨by rw [hr'.out]; rfl, rfl⟩
          · go_wp2
            go_ret2
            exact ⟨by rw [hr'.out]; rfl, rfl⟩
      · obtain rfl : k = s.size := by omega
        have ht : s.data.toList.take s.size = s.data.toList := List.take_of_length_le (by simp)
        have hr' : Hid (r = some (decVal s.data.toList)) := Lib.hid (by
          have := hall.out
          rw [ht] at this
          rw [hr.out, if_pos this])
        rw [ht]
        clear ht hall
        go_wp2
        go_ret2
        exact ⟨by rw [hr'.out]; rfl, rfl⟩
theorem rDec_r (s : ByteArray) (r : Option Nat) (w : World) (hr : Hid (decL s.data.toList = r)) :
    Calls Tryz.prog 69 #[.string s] w fun e w' => e = .returned (decRes r) ∧ w = w' := by
  have hr := hr.out
  unfold decL decShape at hr
  have hl : s.data.toList.length = s.size := by simp
  rw [hl] at hr
  by_cases h : 1 ≤ s.size ∧ s.size ≤ 9
  · obtain ⟨h1, h9⟩ := h
    have h00 : 0 < s.size := by omega
    have hh : s.data.toList.head? = some s[0] := by
      have : s.data.toList[0]? = some s[0] := by
        rw [List.getElem?_eq_getElem (by simpa using h00), Array.getElem_toList]; rfl
      rw [List.head?_eq_getElem?, this]
    rw [hh] at hr
    by_cases h0 : 1 < s.size ∧ s[0].toNat = 48
    · have : r = none := by
        rw [← hr, if_neg]
        have : s[0] = 48 := UInt8.toNat_inj.mp h0.2
        simp [h0.1, this]
      subst this
      exact (rDec_none_nought s w h0.1 h9 (Lib.hid h0.2)).mono fun e w' h => h
    · refine rDec_shape s r w h1 h9 ?_ (Lib.hid ?_)
      · by_cases h1' : s.size = 1
        · exact .inl h1'
        · exact .inr ⟨h00, fun e => h0 ⟨by omega, e⟩⟩
      · rw [← hr]
        have hd : decide (1 ≤ s.size ∧ s.size ≤ 9 ∧ ¬ (1 < s.size ∧ some s[0] = some (48 : UInt8))) = true := by
          rw [decide_eq_true_eq]
          refine ⟨h1, h9, fun ⟨a, b⟩ => h0 ⟨a, ?_⟩⟩
          injection b with b
          rw [b]; rfl
        rw [hd, Bool.true_and]
  · have : r = none := by rw [← hr, if_neg]; simp; omega
    subst this
    exact (rDec_none_len s w (by omega)).mono fun e w' h => h
end Go.Proofs.YtialookpnoaogaaGreat
/- schema.Addr, schema.Net, walked. -/
namespace Go.Proofs.YtialookpnoaogaaGreat
open Go.RowKit

theorem dec_none (s : ByteArray) (w : World) (h : Hid (decL s.data.toList = none)) :
    Calls Tryz.prog 55 #[.string s] w fun e w' => e = .returned (.tuple #[.int .i64 0, .bool false]) ∧ w = w' := dec_r s none w h
theorem dec_some (s : ByteArray) (n : Nat) (w : World) (h : Hid (decL s.data.toList = some n)) :
    Calls Tryz.prog 55 #[.string s] w fun e w' => e = .returned (.tuple #[.int .i64 (n : Nat), .bool true]) ∧ w = w' := dec_r s (some n) w h
theorem rDec_none (s : ByteArray) (w : World) (h : Hid (decL s.data.toList = none)) :
    Calls Tryz.prog 69 #[.string s] w fun e w' => e = .returned (.tuple #[.int .i64 0, .bool false]) ∧ w = w' := rDec_r s none w h
theorem rDec_some (s : ByteArray) (n : Nat) (w : World) (h : Hid (decL s.data.toList = some n)) :
    Calls Tryz.prog 69 #[.string s] w fun e w' => e = .returned (.tuple #[.int .i64 (n : Nat), .bool true]) ∧ w = w' := rDec_r s (some n) w h

def addrRes : Option Nat → Value
  | some n => .tuple #[.int .u32 (n : Nat), .bool true]
  | none => .tuple #[.int .u32 0, .bool false]
theorem or_low8 (m b : Nat) (h : b < 256) : (m * 256) ||| b = m * 256 + b := by
  have h := Nat.two_pow_add_eq_or_of_lt (i := 8) (b := b) h m
  rw [show (2 : Nat) ^ 8 * m = m * 256 by omega] at h
  exact h.symm

set_option maxRecDepth 100000 in
set_option maxHeartbeats 1000000 in
theorem addr_r (s : ByteArray) (r : Option Nat) (w : World) (hs : s.size ≤ 9223372036854775807) (hr : Hid (addrL s.data.toList = r)) :
    Calls Tryz.prog 36 #[.string s] w fun e w' => e = .returned (addrRes r) ∧ ∃ m, w' = w.drewN m := by
  go_enter Tryz.func36, Tryz.ntmps36
  go_wp2
  go_loopw [0, 4, 11] (fun sv nv iv wr => ∃ (R : ByteArray) (k n : Nat), k ≤ 4 ∧ sv = .string R ∧ nv = .int .u32 (n : Nat) ∧ iv = .int .i64 k ∧ R.size ≤ s.size ∧ Hid (n < 256 ^ k) ∧ Hid (addrGo (4 - k) n R.data.toList = r) ∧ Hid (∃ m, wr = w.drewN m)) (fun _ _ iv _ => 4 - (intOf iv).toNat)
  case atStart => exact ⟨s, 0, 0, by omega, rfl, rfl, rfl, by omega, Lib.hid (by simp), Lib.hid hr.out, Lib.hid ⟨0, rfl⟩⟩
  case round =>
    obtain ⟨R, k, n, hk, rfl, rfl, rfl, hRs, hn, hgo, hw⟩ := hrel
    by_cases hk4 : k < 4
    · obtain ⟨j, hj⟩ : ∃ j, 4 - k = j + 1 := ⟨3 - k, by omega⟩
      have hgo1 := hgo.out
      rw [hj] at hgo1
      have hn4 : n < 16777216 := by
        have h1 := hn.out
        have : 256 ^ k ≤ 256 ^ 3 := Nat.pow_le_pow_right (by omega) (by omega)
        omega
      by_cases hm : 46 ∈ R.data.toList
      · rw [addrGo_yes hm] at hgo1
        obtain ⟨X, Y, hC, -, -⟩ := cutAt_ex hm
        rw [← hC.2.1, ← hC.2.2.1] at hgo1
        have hYs : Y.size ≤ s.size := Nat.le_trans hC.2.2.2.2 hRs
        have hC' := Lib.hid hC; clear hC hm hgo
        cases hd : decL X.data.toList with
        | none =>
          have hd' := Lib.hid hd
          rw [hd] at hgo1
          have hr1 := Lib.hid hgo1; clear hgo1 hd hj
          go_wp2_with (first | (go_at_call 70; refine (stringsCut_at R 46 X Y _ (by omega) hC').mono ?_; rintro e w1 ⟨rfl, m1, rfl⟩) | (go_at_call 55; refine (dec_none X _ hd').mono ?_; rintro e w' ⟨rfl, rfl⟩))
          go_ret2
          exact ⟨by rw [← hr1.out]; rfl, by obtain ⟨m, hm⟩ := hw.out; exact ⟨m + m1, by rw [hm]; simp⟩⟩
        | some b =>
          have hd' := Lib.hid hd
          rw [hd] at hgo1
          simp only at hgo1
          have hb9 := decL_lt hd
          clear hd
          by_cases hb : b ≤ 255
          · by_cases hk3 : k < 3
            · rw [if_pos ⟨hb, by omega⟩] at hgo1
              have hg : Hid (addrGo (4 - (k + 1)) (n * 256 + b) Y.data.toList = r) := Lib.hid (by rw [show 4 - (k + 1) = j by omega]; exact hgo1)
              have hn' : Hid (n * 256 + b < 256 ^ (k + 1)) := Lib.hid (by have := hn.out; rw [Nat.pow_succ]; omega)
              clear hgo1 hj
              have hor := u32_or_nat (n * 256) b (by omega) (by omega)
              rw [or_low8 n b (by omega)] at hor
              have hor2 : bits .or .u32 ((n : Int) * 256) (b : Int) = ((n * 256 + b : Nat) : Int) := by rw [← hor]; push_cast; rfl
              clear hor
              have hor' := Lib.hid hor2; clear hor2
              have hk3' : decide ((k : Int) < 3) = true := by simp; omega
              go_wp2_with (first | (go_at_call 70; refine (stringsCut_at R 46 X Y _ (by omega) hC').mono ?_; rintro e w1 ⟨rfl, m1, rfl⟩) | (go_at_call 55; refine (dec_some X b _ hd').mono ?_; rintro e w' ⟨rfl, rfl⟩))
              all_goals exact ⟨⟨Y, k + 1, n * 256 + b, by omega, rfl, by rw [hor'.out], by go_num, hYs, hn', hg, by obtain ⟨m, hm⟩ := hw.out; exact Lib.hid ⟨m + m1, by rw [hm]; simp⟩⟩, by simp [intOf]; omega⟩
            · rw [if_neg (by omega)] at hgo1
              have hk3' : decide ((k : Int) < 3) = false := by simp; omega
              have hr1 := Lib.hid hgo1; clear hgo1 hj
              go_wp2_with (first | (go_at_call 70; refine (stringsCut_at R 46 X Y _ (by omega) hC').mono ?_; rintro e w1 ⟨rfl, m1, rfl⟩) | (go_at_call 55; refine (dec_some X b _ hd').mono ?_; rintro e w' ⟨rfl, rfl⟩))
              go_ret2
              exact ⟨by rw [← hr1.out]; rfl, by obtain ⟨m, hm⟩ := hw.out; exact ⟨m + m1, by rw [hm]; simp⟩⟩
          · rw [if_neg (by omega)] at hgo1
            have hr1 := Lib.hid hgo1; clear hgo1 hj
            go_wp2_with (first | (go_at_call 70; refine (stringsCut_at R 46 X Y _ (by omega) hC').mono ?_; rintro e w1 ⟨rfl, m1, rfl⟩) | (go_at_call 55; refine (dec_some X b _ hd').mono ?_; rintro e w' ⟨rfl, rfl⟩))
            go_ret2
            exact ⟨by rw [← hr1.out]; rfl, by obtain ⟨m, hm⟩ := hw.out; exact ⟨m + m1, by rw [hm]; simp⟩⟩
      · rw [addrGo_no hm] at hgo1
        have hm' := Lib.hid hm; clear hm hgo
        cases hd : decL R.data.toList with
        | none =>
          have hd' := Lib.hid hd
          rw [hd] at hgo1
          have hr1 := Lib.hid hgo1; clear hgo1 hd hj
          go_wp2_with (first | (go_at_call 70; refine (stringsCut_no R 46 _ hm').mono ?_; rintro e w' ⟨rfl, rfl⟩) | (go_at_call 55; refine (dec_none R _ hd').mono ?_; rintro e w' ⟨rfl, rfl⟩))
          go_ret2
          exact ⟨by rw [← hr1.out]; rfl, hw.out⟩
        | some b =>
          have hd' := Lib.hid hd
          rw [hd] at hgo1
          simp only at hgo1
          have hb9 := decL_lt hd
          clear hd
          by_cases hb : b ≤ 255
          · by_cases hk3 : k < 3
            · rw [if_neg (by omega)] at hgo1
              have hr1 := Lib.hid hgo1; clear hgo1 hj
              go_wp2_with (first | (go_at_call 70; refine (stringsCut_no R 46 _ hm').mono ?_; rintro e w' ⟨rfl, rfl⟩) | (go_at_call 55; refine (dec_some R b _ hd').mono ?_; rintro e w' ⟨rfl, rfl⟩))
              go_ret2
              exact ⟨by rw [← hr1.out]; rfl, hw.out⟩
            · obtain rfl : k = 3 := by omega
              obtain rfl : j = 0 := by omega
              rw [if_pos ⟨hb, rfl⟩] at hgo1
              have hg : Hid (addrGo (4 - (3 + 1)) (n * 256 + b) [] = r) := Lib.hid hgo1
              have hn' : Hid (n * 256 + b < 256 ^ (3 + 1)) := Lib.hid (by have := hn.out; rw [Nat.pow_succ]; omega)
              clear hgo1 hj
              have hor := u32_or_nat (n * 256) b (by omega) (by omega)
              rw [or_low8 n b (by omega)] at hor
              have hor2 : bits .or .u32 ((n : Int) * 256) (b : Int) = ((n * 256 + b : Nat) : Int) := by rw [← hor]; push_cast; rfl
              clear hor
              have hor' := Lib.hid hor2; clear hor2
              go_wp2_with (first | (go_at_call 70; refine (stringsCut_no R 46 _ hm').mono ?_; rintro e w' ⟨rfl, rfl⟩) | (go_at_call 55; refine (dec_some R b _ hd').mono ?_; rintro e w' ⟨rfl, rfl⟩))
              all_goals exact ⟨⟨_, 3 + 1, n * 256 + b, by omega, rfl, by rw [hor'.out], rfl, Nat.zero_le _, hn', hg, hw⟩, by simp [intOf]⟩
          · rw [if_neg (by omega)] at hgo1
            have hr1 := Lib.hid hgo1; clear hgo1 hj
            go_wp2_with (first | (go_at_call 70; refine (stringsCut_no R 46 _ hm').mono ?_; rintro e w' ⟨rfl, rfl⟩) | (go_at_call 55; refine (dec_some R b _ hd').mono ?_; rintro e w' ⟨rfl, rfl⟩))
            go_ret2
            exact ⟨by rw [← hr1.out]; rfl, hw.out⟩
    · obtain rfl : k = 4 := by omega
      have hr1 : Hid (some n = r) := Lib.hid hgo.out
      go_wp2
      go_ret2
      exact ⟨by rw [← hr1.out]; rfl, hw.out⟩
end Go.Proofs.YtialookpnoaogaaGreat
