/- What was put is got again: an Lsa's bytes tell it. -/
import Derived.Test.YtiogeepffdpafaaLAD
namespace Go.Proofs.Ytiogeepffdpafaa
open Go.RowKit

/-- an Lsa's bytes behind its age, the sum left out -/
def rawB (l : LsaD) : List UInt8 := [2, UInt8.ofNat (lo8 l.type)] ++ (be 4 l.id ++ (be 4 l.adv ++ (be 4 (lo64 l.seq) ++ (be 2 0 ++ (be 2 (lo64 (20 + ((tellB l).length : Int))) ++ tellB l)))))
theorem restB_raw (l : LsaD) : restB l = ((rawB l).set 14 (UInt8.ofNat (flX (zed (rawB l) 14) (rawB l).length 14))).set 15 (UInt8.ofNat (flY (zed (rawB l) 14) (rawB l).length 14)) := rfl
theorem rawB_len (l : LsaD) : (rawB l).length = 18 + (tellB l).length := by unfold rawB; simp [be_len]; omega
theorem ofNat_lt (n : Nat) (h : n < 255) : (UInt8.ofNat n).toNat = n := by simp; omega
theorem restB_right (l : LsaD) : rightF (restB l) = true := by
  rw [restB_raw]
  exact right_with (by rw [rawB_len]; omega) _ _ (ofNat_lt _ (flX_lt _ _ _)) (ofNat_lt _ (flY_lt _ _ _))
/-- behind the sum nothing is turned -/
theorem restB_shape (l : LsaD) : ∃ a b : UInt8, a.toNat < 255 ∧ b.toNat < 255 ∧ restB l = [2, UInt8.ofNat (lo8 l.type)] ++ (be 4 l.id ++ (be 4 l.adv ++ (be 4 (lo64 l.seq) ++ ([a, b] ++ (be 2 (lo64 (20 + ((tellB l).length : Int))) ++ tellB l))))) := by
  refine ⟨UInt8.ofNat (flX (zed (rawB l) 14) (rawB l).length 14), UInt8.ofNat (flY (zed (rawB l) 14) (rawB l).length 14), by rw [ofNat_lt _ (flX_lt _ _ _)]; exact flX_lt _ _ _, by rw [ofNat_lt _ (flY_lt _ _ _)]; exact flY_lt _ _ _, ?_⟩
  rw [restB_raw]
  generalize UInt8.ofNat (flX (zed (rawB l) 14) (rawB l).length 14) = a
  generalize UInt8.ofNat (flY (zed (rawB l) 14) (rawB l).length 14) = b
  unfold rawB
  simp only [be4, be2, List.cons_append, List.nil_append]
  rfl
theorem sub_app (a b : List UInt8) (i n : Nat) (h : a.length = i) : sub (a ++ b) i n = b.take n := by
  subst h; unfold sub; rw [List.drop_append_of_le_length (Nat.le_refl _), List.drop_length, List.nil_append]
theorem take_be (k n : Nat) (r : List UInt8) : (be k n ++ r).take k = be k n := by
  rw [List.take_append_of_le_length (by rw [be_len]; omega), List.take_of_length_le (by rw [be_len]; omega)]
theorem head_len (l : LsaD) (h1 : l.links.length ≤ 40) (h2 : l.routers.length ≤ 40) (q : Int) : (headR (restB l) q).len = 20 + ((tellB l).length : Int) := by
  obtain ⟨a, b, -, -, hr⟩ := restB_shape l
  have htl := tellB_len h1 h2
  show ((beVal (sub (restB l) 16 2) : Nat) : Int) = _
  rw [hr, show [2, UInt8.ofNat (lo8 l.type)] ++ (be 4 l.id ++ (be 4 l.adv ++ (be 4 (lo64 l.seq) ++ ([a, b] ++ (be 2 (lo64 (20 + ((tellB l).length : Int))) ++ tellB l))))) = ([2, UInt8.ofNat (lo8 l.type)] ++ be 4 l.id ++ be 4 l.adv ++ be 4 (lo64 l.seq) ++ [a, b]) ++ (be 2 (lo64 (20 + ((tellB l).length : Int))) ++ tellB l) from by simp only [List.append_assoc],
    sub_app _ _ 16 2 (by simp [be_len]), take_be, beVal_be]
  unfold lo64; omega
theorem head_seq (l : LsaD) (q : Int) : (headR (restB l) q).seq = sgn32 (lo64 l.seq % 4294967296) := by
  obtain ⟨a, b, -, -, hr⟩ := restB_shape l
  show sgn32 (beVal (sub (restB l) 10 4)) = _
  rw [hr, show [2, UInt8.ofNat (lo8 l.type)] ++ (be 4 l.id ++ (be 4 l.adv ++ (be 4 (lo64 l.seq) ++ ([a, b] ++ (be 2 (lo64 (20 + ((tellB l).length : Int))) ++ tellB l))))) = ([2, UInt8.ofNat (lo8 l.type)] ++ be 4 l.id ++ be 4 l.adv) ++ (be 4 (lo64 l.seq) ++ ([a, b] ++ (be 2 (lo64 (20 + ((tellB l).length : Int))) ++ tellB l))) from by simp only [List.append_assoc],
    sub_app _ _ 10 4 (by simp [be_len]), take_be, beVal_be]
theorem head_adv (l : LsaD) (q : Int) : (headR (restB l) q).adv = l.adv % 4294967296 := by
  obtain ⟨a, b, -, -, hr⟩ := restB_shape l
  show beVal (sub (restB l) 6 4) = _
  rw [hr, show [2, UInt8.ofNat (lo8 l.type)] ++ (be 4 l.id ++ (be 4 l.adv ++ (be 4 (lo64 l.seq) ++ ([a, b] ++ (be 2 (lo64 (20 + ((tellB l).length : Int))) ++ tellB l))))) = ([2, UInt8.ofNat (lo8 l.type)] ++ be 4 l.id) ++ (be 4 l.adv ++ (be 4 (lo64 l.seq) ++ ([a, b] ++ (be 2 (lo64 (20 + ((tellB l).length : Int))) ++ tellB l)))) from by simp only [List.append_assoc],
    sub_app _ _ 6 4 (by simp [be_len]), take_be, beVal_be]
theorem head_id (l : LsaD) (q : Int) : (headR (restB l) q).id = l.id % 4294967296 := by
  obtain ⟨a, b, -, -, hr⟩ := restB_shape l
  show beVal (sub (restB l) 2 4) = _
  rw [hr, sub_app _ _ 2 4 (by simp), take_be, beVal_be]
theorem head_type (l : LsaD) (q : Int) (h : 0 ≤ l.type ∧ l.type < 256) : (headR (restB l) q).type = l.type := by
  obtain ⟨a, b, -, -, hr⟩ := restB_shape l
  show (((restB l).getD 1 0).toNat : Int) = _
  rw [hr]
  show ((UInt8.ofNat (lo8 l.type)).toNat : Int) = _
  have : lo8 l.type = l.type.toNat := by unfold lo8; omega
  rw [this]; simp; omega
theorem restB_tell (l : LsaD) : (restB l).drop 18 = tellB l := by
  obtain ⟨a, b, -, -, hr⟩ := restB_shape l
  rw [hr, show [2, UInt8.ofNat (lo8 l.type)] ++ (be 4 l.id ++ (be 4 l.adv ++ (be 4 (lo64 l.seq) ++ ([a, b] ++ (be 2 (lo64 (20 + ((tellB l).length : Int))) ++ tellB l))))) = ([2, UInt8.ofNat (lo8 l.type)] ++ be 4 l.id ++ be 4 l.adv ++ be 4 (lo64 l.seq) ++ [a, b] ++ be 2 (lo64 (20 + ((tellB l).length : Int)))) ++ tellB l from by simp only [List.append_assoc],
    List.drop_append_of_le_length (by simp [be_len]), List.drop_of_length_le (by simp [be_len]), List.nil_append]
theorem readN_bes (ns : List Nat) (h : Small ns) : readN (bes ns) ns.length = ns := by
  induction ns with
  | nil => rfl
  | cons n ns ih =>
    have hb : bes (n :: ns) = be 4 n ++ bes ns := by unfold bes; rw [List.flatMap_cons]
    unfold readN at ih ⊢
    rw [List.length_cons, List.range_succ_eq_map, List.map_cons, List.map_map, hb]
    have h0 : beVal (sub (be 4 n ++ bes ns) (4 * 0) 4) = n := by
      unfold sub; rw [Nat.mul_zero, List.drop_zero, take_be, beVal_be]; have := h n (by simp); omega
    rw [h0]
    congr 1
    conv => rhs; rw [← ih (fun m hm => h m (by simp [hm]))]
    apply List.map_congr_left
    intro i _
    show beVal (sub (be 4 n ++ bes ns) (4 * (i + 1)) 4) = beVal (sub (bes ns) (4 * i) 4)
    have : sub (be 4 n ++ bes ns) (4 * (i + 1)) 4 = sub (bes ns) (4 * i) 4 := by
      unfold sub
      rw [show 4 * (i + 1) = (be 4 n).length + 4 * i by rw [be_len]; omega, ← List.drop_drop, List.drop_append_of_le_length (Nat.le_refl _), List.drop_length, List.nil_append]
    rw [this]
theorem linkAt_link (l : LinkD) (h : l.ok) (hw : wrongB l = false) (r : List UInt8) : linkAt (linkB l ++ r) 0 = l := by
  obtain ⟨id, data, type, cost⟩ := l
  obtain ⟨h1, h2, h3, h4⟩ := h
  unfold wrongB withinB at hw
  simp only [Bool.or_eq_false_iff, Bool.not_eq_false', decide_eq_true_eq] at hw h1 h2
  have hb : linkB ⟨id, data, type, cost⟩ = be 4 id ++ (be 4 data ++ ([UInt8.ofNat (lo8 type), 0] ++ be 2 (lo16 cost))) := by unfold linkB; simp only [List.append_assoc]
  unfold linkAt
  rw [hb]
  have e1 : beVal (sub ((be 4 id ++ (be 4 data ++ ([UInt8.ofNat (lo8 type), 0] ++ be 2 (lo16 cost)))) ++ r) 0 4) = id := by
    unfold sub; rw [List.drop_zero, List.append_assoc, take_be, beVal_be]; omega
  have e2 : beVal (sub ((be 4 id ++ (be 4 data ++ ([UInt8.ofNat (lo8 type), 0] ++ be 2 (lo16 cost)))) ++ r) (0 + 4) 4) = data := by
    rw [List.append_assoc, sub_app _ _ (0 + 4) 4 (by rw [be_len]), List.append_assoc, take_be, beVal_be]; omega
  have e3 : (((be 4 id ++ (be 4 data ++ ([UInt8.ofNat (lo8 type), 0] ++ be 2 (lo16 cost)))) ++ r).getD (0 + 8) 0) = UInt8.ofNat (lo8 type) := by
    rw [be4, be4]; rfl
  have e4 : beVal (sub ((be 4 id ++ (be 4 data ++ ([UInt8.ofNat (lo8 type), 0] ++ be 2 (lo16 cost)))) ++ r) (0 + 10) 2) = lo16 cost % 65536 := by
    rw [show ((be 4 id ++ (be 4 data ++ ([UInt8.ofNat (lo8 type), 0] ++ be 2 (lo16 cost)))) ++ r) = (be 4 id ++ be 4 data ++ [UInt8.ofNat (lo8 type), 0]) ++ (be 2 (lo16 cost) ++ r) from by simp only [List.append_assoc],
      sub_app _ _ (0 + 10) 2 (by simp [be_len]), take_be, beVal_be]
  rw [e1, e2, e3, e4]
  have e5 : ((UInt8.ofNat (lo8 type)).toNat : Int) = type := by
    have : lo8 type = type.toNat := by unfold lo8; omega
    rw [this]; simp; omega
  have e6 : ((lo16 cost % 65536 : Nat) : Int) = cost := by unfold lo16; omega
  rw [e5, e6]
theorem readL_links (ls : List LinkD) (h : ∀ l ∈ ls, l.ok) (hw : ∀ l ∈ ls, wrongB l = false) : readL (linksB ls) ls.length = ls := by
  induction ls with
  | nil => rfl
  | cons n ns ih =>
    have hb : linksB (n :: ns) = linkB n ++ linksB ns := by unfold linksB; rw [List.flatMap_cons]
    unfold readL at ih ⊢
    rw [List.length_cons, List.range_succ_eq_map, List.map_cons, List.map_map, hb]
    have h0 : linkAt (linkB n ++ linksB ns) (12 * 0) = n := linkAt_link n (h n (by simp)) (hw n (by simp)) _
    rw [h0]
    congr 1
    conv => rhs; rw [← ih (fun m hm => h m (by simp [hm])) (fun m hm => hw m (by simp [hm]))]
    apply List.map_congr_left
    intro i _
    show linkAt (linkB n ++ linksB ns) (12 * (i + 1)) = linkAt (linksB ns) (12 * i)
    have hs : ∀ j k, sub (linkB n ++ linksB ns) (12 * (i + 1) + j) k = sub (linksB ns) (12 * i + j) k := fun j k => by
      unfold sub
      rw [show 12 * (i + 1) + j = (linkB n).length + (12 * i + j) by rw [linkB_len]; omega, ← List.drop_drop, List.drop_append_of_le_length (Nat.le_refl _), List.drop_length, List.nil_append]
    have hg : (linkB n ++ linksB ns).getD (12 * (i + 1) + 8) 0 = (linksB ns).getD (12 * i + 8) 0 := by
      simp only [List.getD]
      rw [List.getElem?_append_right (by rw [linkB_len]; omega), linkB_len]
      congr 2
    unfold linkAt
    rw [hg, hs 4 4, hs 10 2, show sub (linkB n ++ linksB ns) (12 * (i + 1)) 4 = sub (linksB ns) (12 * i) 4 from hs 0 4]
theorem tell_hear (l : LsaD) (hok : l.ok) (h : toldB l = true) : hearD l.age l.type l.id l.adv l.seq (tellB l) = l := by
  obtain ⟨age, type, id, adv, seq, links, mask, routers, cost⟩ := l
  obtain ⟨-, -, -, -, -, hlok, hm, hrok, -⟩ := hok
  simp only at hlok hm hrok
  unfold toldB at h
  simp only at h
  by_cases t1 : type = 1
  · subst t1
    rw [if_pos rfl] at h
    simp only [Bool.and_eq_true, decide_eq_true_eq, Bool.not_eq_true'] at h
    obtain ⟨hl, hw, rfl, hr, rfl⟩ := h
    obtain rfl : routers = [] := List.length_eq_zero_iff.1 hr
    have ht : tellB ⟨age, 1, id, adv, seq, links, 0, [], 0⟩ = be 4 links.length ++ linksB links := by unfold tellB; rw [if_pos rfl]
    rw [ht]
    have hlen : (be 4 links.length ++ linksB links).length = 4 + 12 * links.length := by rw [List.length_append, be_len, linksB_len]
    have hdrop : (be 4 links.length ++ linksB links).drop 4 = linksB links := by rw [List.drop_append_of_le_length (by rw [be_len]; omega), List.drop_of_length_le (by rw [be_len]; omega), List.nil_append]
    unfold hearD
    rw [if_neg (by rw [hlen]; omega), if_pos rfl, hlen, hdrop, show (4 + 12 * links.length - 4) / 12 = links.length by omega, readL_links links hlok (fun m hm => by
      cases hb : wrongB m with
      | false => rfl
      | true => exact absurd (List.any_eq_true.2 ⟨m, hm, hb⟩) (by rw [hw]; decide))]
  · rw [if_neg t1] at h
    by_cases t2 : type = 2
    · subst t2
      rw [if_pos rfl] at h
      simp only [Bool.and_eq_true, decide_eq_true_eq] at h
      obtain ⟨hl, -, rfl⟩ := h
      obtain rfl : links = [] := List.length_eq_zero_iff.1 hl
      have ht : tellB ⟨age, 2, id, adv, seq, [], mask, routers, 0⟩ = be 4 mask ++ bes routers := by unfold tellB; rw [if_neg (show ¬ (2 : Int) = 1 by decide), if_pos rfl]
      rw [ht]
      have hlen : (be 4 mask ++ bes routers).length = 4 + 4 * routers.length := by rw [List.length_append, be_len, bes_len]
      have hdrop : (be 4 mask ++ bes routers).drop 4 = bes routers := by rw [List.drop_append_of_le_length (by rw [be_len]; omega), List.drop_of_length_le (by rw [be_len]; omega), List.nil_append]
      have hm4 : beVal (sub (be 4 mask ++ bes routers) 0 4) = mask := by unfold sub; rw [List.drop_zero, take_be, beVal_be]; omega
      unfold hearD
      rw [if_neg (by rw [hlen]; omega), if_neg (show ¬ (2 : Int) = 1 by decide), if_pos rfl, hlen, hdrop, hm4, show (4 + 4 * routers.length - 4) / 4 = routers.length by omega, readN_bes routers hrok]
    · rw [if_neg t2] at h
      by_cases t3 : type = 3
      · subst t3
        rw [if_pos rfl] at h
        simp only [Bool.and_eq_true, decide_eq_true_eq] at h
        obtain ⟨hl, hr, hc⟩ := h
        unfold withinB at hc
        rw [decide_eq_true_iff] at hc
        obtain rfl : links = [] := List.length_eq_zero_iff.1 hl
        obtain rfl : routers = [] := List.length_eq_zero_iff.1 hr
        have ht : tellB ⟨age, 3, id, adv, seq, [], mask, [], cost⟩ = be 4 mask ++ be 4 (lo32 cost) := by unfold tellB; rw [if_neg (show ¬ (3 : Int) = 1 by decide), if_neg (show ¬ (3 : Int) = 2 by decide)]
        rw [ht]
        have hlen : (be 4 mask ++ be 4 (lo32 cost)).length = 8 := by rw [List.length_append, be_len, be_len]
        have hdrop : (be 4 mask ++ be 4 (lo32 cost)).drop 4 = be 4 (lo32 cost) := by rw [List.drop_append_of_le_length (by rw [be_len]; omega), List.drop_of_length_le (by rw [be_len]; omega), List.nil_append]
        have hm4 : beVal (sub (be 4 mask ++ be 4 (lo32 cost)) 0 4) = mask := by unfold sub; rw [List.drop_zero, take_be, beVal_be]; omega
        have hc4 : ((beVal (be 4 (lo32 cost)) % 4294967296 : Nat) : Int) = cost := by rw [beVal_be]; unfold lo32; omega
        unfold hearD
        rw [if_neg (by rw [hlen]; omega), if_neg (show ¬ (3 : Int) = 1 by decide), if_neg (show ¬ (3 : Int) = 2 by decide), if_pos rfl, hdrop, hm4, hc4]
      · rw [if_neg t3] at h; cases h
theorem told_type {l : LsaD} (h : toldB l = true) : 0 ≤ l.type ∧ l.type < 256 := by
  unfold toldB at h
  by_cases t1 : l.type = 1
  · omega
  · rw [if_neg t1] at h
    by_cases t2 : l.type = 2
    · omega
    · rw [if_neg t2] at h
      by_cases t3 : l.type = 3
      · omega
      · rw [if_neg t3] at h; cases h
/-- what was put is got again -/
theorem getL_put (l : LsaD) (hok : l.ok) (h : canB l = true) : getL (putB l) = (l, 0) := by
  have htold := canB_told h
  have hlens := canB_lens h
  have htl := tellB_len hlens.1 hlens.2
  have hlen := putB_len l
  have hc := h
  unfold canB withinB at hc
  simp only [Bool.and_eq_true, decide_eq_true_eq] at hc
  have hage : ((lo64 l.age % 65536 : Nat) : Int) = l.age := by unfold lo64; omega
  have hhead : headOf (putB l) = headR (restB l) l.age := by rw [headOf_put, hage]
  have hfields : hearH (headOf (putB l)) ((putB l).drop 20) = l := by
    have hd : (putB l).drop 20 = tellB l := by rw [show (20 : Nat) = 2 + 18 from rfl, ← List.drop_drop, putB_drop, restB_tell]
    rw [hd, hhead]
    unfold hearH
    rw [head_type l _ (told_type htold), head_id, head_adv, head_seq, Nat.mod_eq_of_lt hok.id, Nat.mod_eq_of_lt hok.adv,
      show sgn32 (lo64 l.seq % 4294967296) = l.seq from by unfold sgn32 lo64; split <;> omega]
    exact tell_hear l hok htold
  obtain ⟨a, b, ha, hb, hr⟩ := restB_shape l
  have h16 : (putB l).getD 16 0 = a := by rw [putB_rest, hr, be2, be4, be4, be4]; rfl
  have h17 : (putB l).getD 17 0 = b := by rw [putB_rest, hr, be2, be4, be4, be4]; rfl
  unfold getL
  rw [if_neg (by rw [hlen]; omega), if_neg, if_neg, if_pos, hfields]
  · rw [hfields]; exact ⟨h, rfl⟩
  · rw [hhead, head_len l hlens.1 hlens.2, hlen]; simp
  · rw [putB_drop, restB_right, h16, h17]
    rintro (h1 | h1 | h1)
    · cases h1
    · rw [h1] at ha; revert ha; decide
    · rw [h1] at hb; revert hb; decide
end Go.Proofs.Ytiogeepffdpafaa
