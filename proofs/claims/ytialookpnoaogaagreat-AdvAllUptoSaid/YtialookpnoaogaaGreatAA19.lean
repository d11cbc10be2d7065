/- lsa.hear, walked. -/
import Derived.Test.YtialookpnoaogaaGreatAA12
import Derived.Laws.StructEq
import Derived.Test.YtialookpnoaogaaGreatAA11
set_option linter.unusedVariables false
set_option linter.unusedSimpArgs false
namespace Go.Proofs.YtialookpnoaogaaGreat
open Go.RowKit

def hearD (age type : Int) (lid adv : Nat) (seq : Int) (x : List UInt8) : LsaD :=
  if x.length < 4 then ⟨age, type, lid, adv, seq, [], 0, [], 0⟩
  else if type = 1 then ⟨age, type, lid, adv, seq, readL (x.drop 4) ((x.length - 4) / 12), 0, [], 0⟩
  else if type = 2 then ⟨age, type, lid, adv, seq, [], beVal (sub x 0 4), readN (x.drop 4) ((x.length - 4) / 4), 0⟩
  else if type = 3 then ⟨age, type, lid, adv, seq, [], beVal (sub x 0 4), [], (beVal (x.drop 4) % 4294967296 : Nat)⟩
  else ⟨age, type, lid, adv, seq, [], 0, [], 0⟩
/-- an Lsa as a value, its lists in memory -/
def LsaV (w : World) (v : Value) (m : LsaD) : Prop :=
  ∃ p5 c5 p7 c7, v = .agg #[.int .i64 m.age, .int .i64 m.type, .int .u32 m.id, .int .u32 m.adv, .int .i64 m.seq, .slice p5 m.links.length c5, .int .u32 m.mask, .slice p7 m.routers.length c7, .int .i64 m.cost] ∧ LinksAt w (.slice p5 m.links.length c5) m.links ∧ NumsAt w (.slice p7 m.routers.length c7) m.routers
/-- .. in blocks that are new since w0 -/
def LsaF (w0 w : World) (v : Value) (m : LsaD) : Prop :=
  ∃ p5 c5 p7 c7, v = .agg #[.int .i64 m.age, .int .i64 m.type, .int .u32 m.id, .int .u32 m.adv, .int .i64 m.seq, .slice p5 m.links.length c5, .int .u32 m.mask, .slice p7 m.routers.length c7, .int .i64 m.cost] ∧ LinksAt w (.slice p5 m.links.length c5) m.links ∧ NumsAt w (.slice p7 m.routers.length c7) m.routers ∧ (∀ i n c, (Value.slice p5 n c).ownBlock = some i → w0.heap.size ≤ i) ∧ (∀ i n c, (Value.slice p7 n c).ownBlock = some i → w0.heap.size ≤ i)
theorem LsaF.mk {w0 w : World} {age type seq cost : Int} {lid adv mask : Nat} {links : List LinkD} {routers : List Nat} {n5 n7 : Nat} {p5 p7 : Option Addr} {c5 c7 : Nat} (h5 : links.length = n5) (h7 : routers.length = n7) (hl : LinksAt w (.slice p5 n5 c5) links) (hr : NumsAt w (.slice p7 n7 c7) routers)
    (hf5 : ∀ i n c, (Value.slice p5 n c).ownBlock = some i → w0.heap.size ≤ i) (hf7 : ∀ i n c, (Value.slice p7 n c).ownBlock = some i → w0.heap.size ≤ i) :
    LsaF w0 w (.agg #[.int .i64 age, .int .i64 type, .int .u32 lid, .int .u32 adv, .int .i64 seq, .slice p5 n5 c5, .int .u32 mask, .slice p7 n7 c7, .int .i64 cost]) ⟨age, type, lid, adv, seq, links, mask, routers, cost⟩ := by
  subst h5; subst h7; exact ⟨_, _, _, _, rfl, hl, hr, hf5, hf7⟩
theorem drew_fresh {w : World} {v : Value} (h : ∀ i, v.ownBlock = some i → w.drew.heap.size ≤ i) : ∀ i, v.ownBlock = some i → w.heap.size ≤ i := h
theorem fresh_nil (w0 : World) : ∀ i n c, (Value.slice none n c).ownBlock = some i → w0.heap.size ≤ i := fun i n c e => by simp [Value.ownBlock] at e
theorem fresh_of {w0 w1 : World} {p : Option Addr} {n c k : Nat} (h : ∀ i, (Value.slice p n c).ownBlock = some i → w1.heap.size ≤ i) (hk : w0.heap.size + k < w1.heap.size) : ∀ i n c, (Value.slice p n c).ownBlock = some i → w0.heap.size ≤ i := fun i n' c' e => by
  have := h i (by cases p with | none => simp [Value.ownBlock] at e | some a => exact e)
  omega
theorem LsaV.mk {w : World} {age type seq cost : Int} {lid adv mask : Nat} {links : List LinkD} {routers : List Nat} {n5 n7 : Nat} {p5 p7 : Option Addr} {c5 c7 : Nat} (h5 : links.length = n5) (h7 : routers.length = n7) (hl : LinksAt w (.slice p5 n5 c5) links) (hr : NumsAt w (.slice p7 n7 c7) routers) :
    LsaV w (.agg #[.int .i64 age, .int .i64 type, .int .u32 lid, .int .u32 adv, .int .i64 seq, .slice p5 n5 c5, .int .u32 mask, .slice p7 n7 c7, .int .i64 cost]) ⟨age, type, lid, adv, seq, links, mask, routers, cost⟩ := by
  subst h5; subst h7; exact ⟨_, _, _, _, rfl, hl, hr⟩
theorem lsa_one (a b c d x : Int) (s : Value) (m : Int) (r : Value) (k : Int) (hs : s.oneCell' = true) (hr : r.oneCell' = true) : (#[.int .i64 a, .int .i64 b, .int .u32 c, .int .u32 d, .int .i64 x, s, .int .u32 m, r, .int .i64 k] : Array Value).all (·.oneCell') = true := by simp; exact ⟨rfl, rfl, rfl, rfl, rfl, hs, rfl, hr, rfl⟩

end Go.Proofs.YtialookpnoaogaaGreat
/- lsa.Get, walked. -/
namespace Go.Proofs.YtialookpnoaogaaGreat
open Go.RowKit

theorem conv_any' {W : World} {v : Value} {x : List UInt8} (h : BytesAt W v x) : (convert 215 9 v).run Tryz.prog W = .ok (.string ⟨x.toArray⟩) W := by
  cases x with
  | cons a x => exact conv_bytes h (by simp)
  | nil =>
    obtain ⟨p, c, rfl, hp, -, -⟩ := h
    cases p with
    | none => obtain rfl := hp rfl; exact conv_nil W
    | some a => exact run_convert_bytes_back W 215 9 5 a c [] Tryz.underlying215 Tryz.underlying5 Tryz.underlying9 (fun j hj => by simp at hj)
def zeroL : LsaD := ⟨0, 0, 0, 0, 0, [], 0, [], 0⟩
def hearH (h : HeadD) (x : List UInt8) : LsaD := hearD h.age h.type h.id h.adv h.seq x
def getL (x : List UInt8) : LsaD × Int :=
  if x.length < 20 then (zeroL, 4)
  else if rightF (x.drop 2) = false ∨ x.getD 16 0 = 255 ∨ x.getD 17 0 = 255 then (zeroL, 8)
  else if (headOf x).len ≠ (x.length : Int) then (zeroL, 3)
  else if canB (hearH (headOf x) (x.drop 20)) = true ∧ putB (hearH (headOf x) (x.drop 20)) = x then (hearH (headOf x) (x.drop 20), 0)
  else (zeroL, 3)
theorem sub_lt4 (x : List UInt8) (i n : Nat) (hn : n ≤ 4) : beVal (sub x i n) < 4294967296 := by
  have h1 := beVal_lt (sub x i n)
  have h2 : (sub x i n).length ≤ 4 := by unfold sub; simp; omega
  have h3 : 256 ^ (sub x i n).length ≤ 256 ^ 4 := Nat.pow_le_pow_right (by omega) h2
  omega
theorem readN_small (x : List UInt8) (j : Nat) : Small (readN x j) := by
  intro n hn
  unfold readN at hn
  obtain ⟨i, _, rfl⟩ := List.mem_map.1 hn
  exact sub_lt4 x _ 4 (by omega)
theorem readL_ok (x : List UInt8) (j : Nat) : ∀ l ∈ readL x j, l.ok := by
  intro l hl
  unfold readL at hl
  obtain ⟨i, _, rfl⟩ := List.mem_map.1 hl
  have h1 := sub_lt4 x (12 * i) 4 (by omega)
  have h2 := sub_lt4 x (12 * i + 4) 4 (by omega)
  have h3 := sub_lt4 x (12 * i + 10) 2 (by omega)
  have h4 := (x.getD (12 * i + 8) 0).toNat_lt
  refine ⟨h1, h2, ?_, ?_⟩
  · show _ ≤ (((x.getD (12 * i + 8) 0).toNat : Nat) : Int) ∧ (((x.getD (12 * i + 8) 0).toNat : Nat) : Int) ≤ _
    omega
  · show _ ≤ ((beVal (sub x (12 * i + 10) 2) : Nat) : Int) ∧ ((beVal (sub x (12 * i + 10) 2) : Nat) : Int) ≤ _
    omega
theorem no_small : Small [] := fun _ h => by cases h
theorem no_ok : ∀ l ∈ ([] : List LinkD), l.ok := fun _ h => by cases h
theorem hearD_parts (age type seq : Int) (lid adv : Nat) (x : List UInt8) : (hearD age type lid adv seq x).id = lid ∧ (hearD age type lid adv seq x).adv = adv ∧ (hearD age type lid adv seq x).mask < 4294967296 ∧ Small (hearD age type lid adv seq x).routers ∧ ∀ l ∈ (hearD age type lid adv seq x).links, l.ok := by
  unfold hearD
  have s := sub_lt4 x 0 4 (by omega)
  split
  · exact ⟨rfl, rfl, (by show (0 : Nat) < 4294967296; omega), no_small, no_ok⟩
  · split
    · exact ⟨rfl, rfl, (by show (0 : Nat) < 4294967296; omega), no_small, readL_ok _ _⟩
    · split
      · exact ⟨rfl, rfl, s, readN_small _ _, no_ok⟩
      · split
        · exact ⟨rfl, rfl, s, no_small, no_ok⟩
        · exact ⟨rfl, rfl, (by show (0 : Nat) < 4294967296; omega), no_small, no_ok⟩
/-- what Get answers -/
def GetPost (x : List UInt8) (w : World) (e : Ending) (w' : World) : Prop :=
  (∃ v, e = .returned (.tuple #[v, .int .i64 (getL x).2]) ∧ LsaF w w' v (getL x).1) ∧ Keeps (fun _ => False) w w'
theorem LsaF.zero (w0 w : World) : LsaF w0 w (.agg #[.int .i64 0, .int .i64 0, .int .u32 0, .int .u32 0, .int .i64 0, .slice none 0 0, .int .u32 0, .slice none 0 0, .int .i64 0]) zeroL := ⟨none, 0, none, 0, rfl, LinksAt.nil _, NumsAt.nil _, fresh_nil _, fresh_nil _⟩
theorem fresh_lt {w0 : World} {p : Option Addr} {n c : Nat} (h : ∀ i, (Value.slice p n c).ownBlock = some i → w0.heap.size < i) : ∀ i n c, (Value.slice p n c).ownBlock = some i → w0.heap.size ≤ i := fun i n' c' e => by
  have := h i (by cases p with | none => simp [Value.ownBlock] at e | some a => exact e)
  omega
theorem LsaV.zero (w : World) : LsaV w (.agg #[.int .i64 0, .int .i64 0, .int .u32 0, .int .u32 0, .int .i64 0, .slice none 0 0, .int .u32 0, .slice none 0 0, .int .i64 0]) zeroL := ⟨none, 0, none, 0, rfl, LinksAt.nil _, NumsAt.nil _⟩

end Go.Proofs.YtialookpnoaogaaGreat
/- lsa.Get of 20 bytes or more, walked. -/
namespace Go.Proofs.YtialookpnoaogaaGreat
open Go.RowKit


end Go.Proofs.YtialookpnoaogaaGreat
/- lsa.Get of what may be an Lsa, walked. -/
namespace Go.Proofs.YtialookpnoaogaaGreat
open Go.RowKit

theorem key_range {w : World} {B : Nat} {t : TypeId} {a b d e f g h : Value} (hb : BlkAt w B t [a, b, d, e, f, g, h]) : w.rangeAt B 1 [b, d, e] := fun j u hu => by
  have := hb.range (1 + j) u (by
    match j, hu with
    | 0, hu => exact hu
    | 1, hu => exact hu
    | 2, hu => exact hu
    | j + 3, hu => simp at hu)
  rw [Nat.zero_add] at this; exact this
/-- an Lsa as a value, its lists not in block B -/
def LsaX (lo : Nat) (w : World) (v : Value) (m : LsaD) (B : Nat) : Prop :=
  ∃ p5 c5 p7 c7, v = .agg #[.int .i64 m.age, .int .i64 m.type, .int .u32 m.id, .int .u32 m.adv, .int .i64 m.seq, .slice p5 m.links.length c5, .int .u32 m.mask, .slice p7 m.routers.length c7, .int .i64 m.cost] ∧ LinksAt w (.slice p5 m.links.length c5) m.links ∧ NumsAt w (.slice p7 m.routers.length c7) m.routers ∧ (0 < m.links.length → ∀ i n c, (Value.slice p5 n c).ownBlock = some i → i ≠ B) ∧ (0 < m.routers.length → ∀ i n c, (Value.slice p7 n c).ownBlock = some i → i ≠ B) ∧ (∀ i n c, (Value.slice p5 n c).ownBlock = some i → lo ≤ i) ∧ (∀ i n c, (Value.slice p7 n c).ownBlock = some i → lo ≤ i)
theorem LinksAt.lt {w : World} {p : Option Addr} {n c : Nat} {ls : List LinkD} (h : LinksAt w (.slice p n c) ls) (h0 : 0 < ls.length) : ∀ i n c, (Value.slice p n c).ownBlock = some i → i < w.heap.size := fun i n' c' e => by
  obtain ⟨p', c'', e', -, -, hr⟩ := h
  obtain ⟨g, o, e2, hra⟩ := hr h0
  injection e' with e1 e3 e4
  subst e1; subst e2
  simp only [Value.ownBlock, Option.some.injEq] at e
  subst e
  have := hra 0 ls[0] (by simp) 0 _ rfl
  exact World.block_lt_of_cell? w _ this
theorem NumsAt.lt {w : World} {p : Option Addr} {n c : Nat} {ls : List Nat} (h : NumsAt w (.slice p n c) ls) (h0 : 0 < ls.length) : ∀ i n c, (Value.slice p n c).ownBlock = some i → i < w.heap.size := fun i n' c' e => by
  obtain ⟨p', c'', e', -, -, hr⟩ := h
  obtain ⟨g, o, e2, hra⟩ := hr h0
  injection e' with e1 e3 e4
  subst e1; subst e2
  simp only [Value.ownBlock, Option.some.injEq] at e
  subst e
  have := hra 0 (nv ls[0]) (by rw [List.getElem?_map, List.getElem?_eq_getElem h0]; rfl)
  exact World.block_lt_of_cell? w _ this
theorem LsaF.keep {w0 w w' : World} {v : Value} {m : LsaD} (h : LsaF w0 w v m) (k : Keeps (fun _ => False) w w') : LsaF w0 w' v m := by
  obtain ⟨p5, c5, p7, c7, rfl, h1, h2, h3, h4⟩ := h
  exact ⟨p5, c5, p7, c7, rfl, h1.keep k, h2.keep k, h3, h4⟩
theorem LsaX.keep {lo : Nat} {w w' : World} {v : Value} {m : LsaD} {B : Nat} (h : LsaX lo w v m B) (k : Keeps (fun _ => False) w w') : LsaX lo w' v m B := by
  obtain ⟨p5, c5, p7, c7, rfl, h1, h2, h3⟩ := h
  exact ⟨p5, c5, p7, c7, rfl, h1.keep k, h2.keep k, h3⟩
theorem LsaF.older {w0 w1 w : World} {v : Value} {m : LsaD} (h : LsaF w1 w v m) (hs : w0.heap.size ≤ w1.heap.size) : LsaF w0 w v m := by
  obtain ⟨p5, c5, p7, c7, rfl, h1, h2, h3, h4⟩ := h
  exact ⟨p5, c5, p7, c7, rfl, h1, h2, fun i n c e => Nat.le_trans hs (h3 i n c e), fun i n c e => Nat.le_trans hs (h4 i n c e)⟩
theorem LsaF.away {w0 w : World} {v : Value} {m : LsaD} (h : LsaF w0 w v m) {B : Nat} (hB : B < w0.heap.size) {lo : Nat} (hlo : lo ≤ w0.heap.size) : LsaX lo w v m B := by
  obtain ⟨p5, c5, p7, c7, rfl, h1, h2, h3, h4⟩ := h
  exact ⟨p5, c5, p7, c7, rfl, h1, h2, fun _ i n c e => by have := h3 i n c e; omega, fun _ i n c e => by have := h4 i n c e; omega, fun i n c e => Nat.le_trans hlo (h3 i n c e), fun i n c e => Nat.le_trans hlo (h4 i n c e)⟩
theorem LsaF.away2 {w0 w : World} {v : Value} {m : LsaD} (h : LsaF w0 w v m) : LsaX w0.heap.size w v m w.heap.size := by
  obtain ⟨p5, c5, p7, c7, rfl, h1, h2, h3, h4⟩ := h
  exact ⟨p5, c5, p7, c7, rfl, h1, h2, fun h0 i n c e => by have := h1.lt h0 i n c e; omega, fun h0 i n c e => by have := h2.lt h0 i n c e; omega, h3, h4⟩
/-- an Lsa in a block of its own -/
def LsaBox (w : World) (v : Value) (m : LsaD) (lo : Nat) : Prop :=
  ∃ B p5 c5 p7 c7, v = .pointer (some ⟨B, 0, none⟩) ∧ lo ≤ B ∧ w.rangeAt B 0 [.int .i64 m.age, .int .i64 m.type, .int .u32 m.id, .int .u32 m.adv, .int .i64 m.seq, .slice p5 m.links.length c5, .int .u32 m.mask, .slice p7 m.routers.length c7, .int .i64 m.cost] ∧ LinksAt w (.slice p5 m.links.length c5) m.links ∧ NumsAt w (.slice p7 m.routers.length c7) m.routers ∧ (∀ i n c, (Value.slice p5 n c).ownBlock = some i → lo ≤ i) ∧ (∀ i n c, (Value.slice p7 n c).ownBlock = some i → lo ≤ i)
end Go.Proofs.YtialookpnoaogaaGreat
/- lsa.Get of what may be one, walked; all of Get. -/
namespace Go.Proofs.YtialookpnoaogaaGreat
open Go.RowKit

end Go.Proofs.YtialookpnoaogaaGreat
/- All of lsa.Get; puts. -/
namespace Go.Proofs.YtialookpnoaogaaGreat
open Go.RowKit

theorem hearD_lens (age type seq : Int) (lid adv : Nat) (x : List UInt8) : (hearD age type lid adv seq x).links.length ≤ x.length ∧ (hearD age type lid adv seq x).routers.length ≤ x.length := by
  unfold hearD
  split
  · simp
  · split
    · simp only [readL_len, List.length_nil]; omega
    · split
      · simp only [readN_len, List.length_nil]; omega
      · split
        · simp
        · simp
theorem headOf_ok (x : List UInt8) (H : HeadD) (h : headOf x = H) : H.id < 4294967296 ∧ H.adv < 4294967296 := by
  rw [← h]
  exact ⟨sub_lt4 x 4 4 (by omega), sub_lt4 x 8 4 (by omega)⟩

def oneL : LsaD := ⟨0, 1, 5, 5, -2147483647, [], 0, [], 0⟩
theorem one_can : canB oneL = true := by decide
theorem one_len : (putB oneL).length = 24 := by rw [putB_len]; decide
theorem one_get : getL (putB oneL) = (oneL, 0) := by kernel_rfl
end Go.Proofs.YtialookpnoaogaaGreat
/- slices.Equal of links and of numbers, walked. -/
namespace Go.Proofs.YtialookpnoaogaaGreat
open Go.RowKit

def linkEq (a b : LinkD) : Bool := decide (a.id = b.id) && (decide (a.data = b.data) && (decide (a.type = b.type) && decide (a.cost = b.cost)))
def linksEq : List LinkD → List LinkD → Bool
  | [], [] => true
  | a :: r, b :: s => linkEq a b && linksEq r s
  | _, _ => false
def numsEq : List Nat → List Nat → Bool
  | [], [] => true
  | a :: r, b :: s => decide (a = b) && numsEq r s
  | _, _ => false
theorem linksEq_len {a b : List LinkD} (h : a.length ≠ b.length) : linksEq a b = false := by
  induction a generalizing b with
  | nil => cases b <;> simp_all [linksEq]
  | cons x a ih =>
    cases b with
    | nil => rfl
    | cons y b => simp only [linksEq]; rw [ih (by simpa using h)]; simp
theorem numsEq_len {a b : List Nat} (h : a.length ≠ b.length) : numsEq a b = false := by
  induction a generalizing b with
  | nil => cases b <;> simp_all [numsEq]
  | cons x a ih =>
    cases b with
    | nil => rfl
    | cons y b => simp only [numsEq]; rw [ih (by simpa using h)]; simp
theorem numsEq_step {a b : List Nat} {k : Nat} (h1 : k < a.length) (h2 : k < b.length) : numsEq (a.drop k) (b.drop k) = (decide (a[k] = b[k]) && numsEq (a.drop (k + 1)) (b.drop (k + 1))) := by
  rw [List.drop_eq_getElem_cons h1, List.drop_eq_getElem_cons h2]; rfl
theorem linksEq_step {a b : List LinkD} {k : Nat} (h1 : k < a.length) (h2 : k < b.length) : linksEq (a.drop k) (b.drop k) = (linkEq a[k] b[k] && linksEq (a.drop (k + 1)) (b.drop (k + 1))) := by
  rw [List.drop_eq_getElem_cons h1, List.drop_eq_getElem_cons h2]; rfl
@[go_sem] theorem guardLink (op : BinOp) (x y : Operand) (xs ys : Array Value) (w : World) : (eqGuard op 142 x y (.agg xs) (.agg ys)).run Tryz.prog w = .ok () w := run_eqGuard_agg w op 142 x y xs ys (by kernel_rfl)
end Go.Proofs.YtialookpnoaogaaGreat
/- lsa.Alike, walked (gen_lt.py writes this). -/
namespace Go.Proofs.YtialookpnoaogaaGreat
open Go.RowKit

def keyEq (a b : LsaD) : Bool := decide (a.type = b.type) && (decide (a.id = b.id) && decide (a.adv = b.adv))
def alikeB (a b : LsaD) : Bool := keyEq a b && (decide (a.mask = b.mask) && (decide (a.cost = b.cost) && (linksEq a.links b.links && numsEq a.routers b.routers)))
@[go_sem] theorem guardKey (op : BinOp) (x y : Operand) (xs ys : Array Value) (w : World) : (eqGuard op 71 x y (.agg xs) (.agg ys)).run Tryz.prog w = .ok () w := run_eqGuard_agg w op 71 x y xs ys (by kernel_rfl)
theorem alike_cases (k1 k2 k3 m c l r : Prop) : ¬ k1 ∨ (k1 ∧ ¬ k2) ∨ (k1 ∧ k2 ∧ ¬ k3) ∨ (k1 ∧ k2 ∧ k3 ∧ ¬ m) ∨ (k1 ∧ k2 ∧ k3 ∧ m ∧ ¬ c) ∨ (k1 ∧ k2 ∧ k3 ∧ m ∧ c ∧ ¬ l) ∨ (k1 ∧ k2 ∧ k3 ∧ m ∧ c ∧ l) := by
  by_cases h1 : k1 <;> by_cases h2 : k2 <;> by_cases h3 : k3 <;> by_cases h4 : m <;> by_cases h5 : c <;> by_cases h6 : l <;> simp [h1, h2, h3, h4, h5, h6]
theorem links_eq_len {a b : List LinkD} (h : linksEq a b = true) : a.length = b.length := by
  by_cases e : a.length = b.length
  · exact e
  · rw [linksEq_len e] at h; simp at h
end Go.Proofs.YtialookpnoaogaaGreat
/- The document's Alike, walked (gen_lu.py writes this). -/
namespace Go.Proofs.YtialookpnoaogaaGreat
open Go.RowKit

@[go_sem] theorem guardKeyR (op : BinOp) (x y : Operand) (xs ys : Array Value) (w : World) : (eqGuard op 91 x y (.agg xs) (.agg ys)).run Tryz.prog w = .ok () w := run_eqGuard_agg w op 91 x y xs ys (by kernel_rfl)
@[go_sem] theorem guardLinkR (op : BinOp) (x y : Operand) (xs ys : Array Value) (w : World) : (eqGuard op 98 x y (.agg xs) (.agg ys)).run Tryz.prog w = .ok () w := run_eqGuard_agg w op 98 x y xs ys (by kernel_rfl)
theorem keyInfoR : (Tryz.prog.info? 91).map (·.size) = some 3 := by kernel_rfl
theorem link_four (i1 d1 i2 d2 : Nat) (t1 s1 t2 s2 : Int) : (i1 = i2 ∧ d1 = d2 ∧ t1 = t2 ∧ s1 = s2) ∨ (¬ i1 = i2) ∨ (i1 = i2 ∧ ¬ d1 = d2) ∨ (i1 = i2 ∧ d1 = d2 ∧ ¬ t1 = t2) ∨ (i1 = i2 ∧ d1 = d2 ∧ t1 = t2 ∧ ¬ s1 = s2) := by
  by_cases h1 : i1 = i2 <;> by_cases h2 : d1 = d2 <;> by_cases h3 : t1 = t2 <;> by_cases h4 : s1 = s2 <;> simp [h1, h2, h3, h4]
theorem LinksAt.open {w : World} {p : Option Addr} {c : Nat} {ls : List LinkD} (h : LinksAt w (.slice p ls.length c) ls) (h0 : 0 < ls.length) : ∃ g o, p = some ⟨g, o, none⟩ ∧ ∀ i l, ls[i]? = some l → w.rangeAt g (o + i * 4) (linkVals l) := by
  obtain ⟨p', c', e, -, -, hr⟩ := h
  injection e with e1 e2 e3
  subst e1
  exact hr h0
theorem NumsAt.open {w : World} {p : Option Addr} {c : Nat} {ls : List Nat} (h : NumsAt w (.slice p ls.length c) ls) (h0 : 0 < ls.length) : ∃ g o, p = some ⟨g, o, none⟩ ∧ w.rangeAt g o (ls.map nv) := by
  obtain ⟨p', c', e, -, -, hr⟩ := h
  injection e with e1 e2 e3
  subst e1
  exact hr h0
set_option maxRecDepth 100000 in
set_option maxHeartbeats 4000000 in
theorem r10Alike_any (age1 type1 seq1 cost1 age2 type2 seq2 cost2 : Int) (id1 adv1 mask1 id2 adv2 mask2 : Nat) (links1 links2 : List LinkD) (routers1 routers2 : List Nat) (p5 p7 q5 q7 : Option Addr) (c5 c7 d5 d7 : Nat) (z : Bool) (w : World)
    (hl1 : links1.length ≤ 9223372036854775807) (hl2 : links2.length ≤ 9223372036854775807) (hr1 : routers1.length ≤ 9223372036854775807) (hr2 : routers2.length ≤ 9223372036854775807)
    (hL1 : Hid (LinksAt w (.slice p5 links1.length c5) links1)) (hL2 : Hid (LinksAt w (.slice q5 links2.length d5) links2)) (hR1 : Hid (NumsAt w (.slice p7 routers1.length c7) routers1)) (hR2 : Hid (NumsAt w (.slice q7 routers2.length d7) routers2))
    (hz : Hid (alikeB ⟨age1, type1, id1, adv1, seq1, links1, mask1, routers1, cost1⟩ ⟨age2, type2, id2, adv2, seq2, links2, mask2, routers2, cost2⟩ = z)) :
    Calls Tryz.prog 33 #[.agg #[.int .i64 age1, .int .i64 type1, .int .u32 id1, .int .u32 adv1, .int .i64 seq1, .slice p5 links1.length c5, .int .u32 mask1, .slice p7 routers1.length c7, .int .i64 cost1], .agg #[.int .i64 age2, .int .i64 type2, .int .u32 id2, .int .u32 adv2, .int .i64 seq2, .slice q5 links2.length d5, .int .u32 mask2, .slice q7 routers2.length d7, .int .i64 cost2]] w (fun e w' => e = .returned (.bool z) ∧ Keeps (fun _ => False) w w') := by
  have hkw : Keeps (fun _ => False) w ((w.alloc (.cells #[.int .i64 age1, .int .i64 type1, .int .u32 id1, .int .u32 adv1, .int .i64 seq1, .slice p5 links1.length c5, .int .u32 mask1, .slice p7 routers1.length c7, .int .i64 cost1] 94)).alloc (.cells #[.int .i64 age2, .int .i64 type2, .int .u32 id2, .int .u32 adv2, .int .i64 seq2, .slice q5 links2.length d5, .int .u32 mask2, .slice q7 routers2.length d7, .int .i64 cost2] 94)) := ((Keeps.refl _ _).alloc _).alloc _
  have hA0 := (boxed_new w [.int .i64 age1, .int .i64 type1, .int .u32 id1, .int .u32 adv1, .int .i64 seq1, .slice p5 links1.length c5, .int .u32 mask1, .slice p7 routers1.length c7, .int .i64 cost1] 94).next ((Keeps.refl _ _).alloc (.cells #[.int .i64 age2, .int .i64 type2, .int .u32 id2, .int .u32 adv2, .int .i64 seq2, .slice q5 links2.length d5, .int .u32 mask2, .slice q7 routers2.length d7, .int .i64 cost2] 94))
  have hB0 : Boxed (w.heap.size + 1) [.int .i64 age2, .int .i64 type2, .int .u32 id2, .int .u32 adv2, .int .i64 seq2, .slice q5 links2.length d5, .int .u32 mask2, .slice q7 routers2.length d7, .int .i64 cost2] (w.alloc (.cells #[.int .i64 age1, .int .i64 type1, .int .u32 id1, .int .u32 adv1, .int .i64 seq1, .slice p5 links1.length c5, .int .u32 mask1, .slice p7 routers1.length c7, .int .i64 cost1] 94)) ((w.alloc (.cells #[.int .i64 age1, .int .i64 type1, .int .u32 id1, .int .u32 adv1, .int .i64 seq1, .slice p5 links1.length c5, .int .u32 mask1, .slice p7 routers1.length c7, .int .i64 cost1] 94)).alloc (.cells #[.int .i64 age2, .int .i64 type2, .int .u32 id2, .int .u32 adv2, .int .i64 seq2, .slice q5 links2.length d5, .int .u32 mask2, .slice q7 routers2.length d7, .int .i64 cost2] 94)) := by
    have := boxed_new (w.alloc (.cells #[.int .i64 age1, .int .i64 type1, .int .u32 id1, .int .u32 adv1, .int .i64 seq1, .slice p5 links1.length c5, .int .u32 mask1, .slice p7 routers1.length c7, .int .i64 cost1] 94)) [.int .i64 age2, .int .i64 type2, .int .u32 id2, .int .u32 adv2, .int .i64 seq2, .slice q5 links2.length d5, .int .u32 mask2, .slice q7 routers2.length d7, .int .i64 cost2] 94
    simpa using this
  have hK1 : Hid (((w.alloc (.cells #[.int .i64 age1, .int .i64 type1, .int .u32 id1, .int .u32 adv1, .int .i64 seq1, .slice p5 links1.length c5, .int .u32 mask1, .slice p7 routers1.length c7, .int .i64 cost1] 94)).alloc (.cells #[.int .i64 age2, .int .i64 type2, .int .u32 id2, .int .u32 adv2, .int .i64 seq2, .slice q5 links2.length d5, .int .u32 mask2, .slice q7 routers2.length d7, .int .i64 cost2] 94)).rangeAt w.heap.size 1 [.int .i64 type1, .int .u32 id1, .int .u32 adv1]) := Lib.hid (by
    have hb := hA0.r
    exact fun j u hu => by rw [Nat.add_comm 1 j]; have := hb (j + 1) u (by rcases j with _ | _ | _ | j <;> simp_all); rwa [Nat.zero_add] at this)
  have hK2 : Hid (((w.alloc (.cells #[.int .i64 age1, .int .i64 type1, .int .u32 id1, .int .u32 adv1, .int .i64 seq1, .slice p5 links1.length c5, .int .u32 mask1, .slice p7 routers1.length c7, .int .i64 cost1] 94)).alloc (.cells #[.int .i64 age2, .int .i64 type2, .int .u32 id2, .int .u32 adv2, .int .i64 seq2, .slice q5 links2.length d5, .int .u32 mask2, .slice q7 routers2.length d7, .int .i64 cost2] 94)).rangeAt (w.heap.size + 1) 1 [.int .i64 type2, .int .u32 id2, .int .u32 adv2]) := Lib.hid (by
    have hb := hB0.r
    exact fun j u hu => by rw [Nat.add_comm 1 j]; have := hb (j + 1) u (by rcases j with _ | _ | _ | j <;> simp_all); rwa [Nat.zero_add] at this)
  have hA := Lib.hid hA0
  have hB := Lib.hid hB0
  clear hA0 hB0
  have hL1' := Lib.hid (hL1.out.keep hkw)
  have hL2' := Lib.hid (hL2.out.keep hkw)
  have hR1' := Lib.hid (hR1.out.keep hkw)
  have hR2' := Lib.hid (hR2.out.keep hkw)
  have hkw' := Lib.hid hkw
  clear hkw hL1 hL2 hR1 hR2
  have hz0 := hz.out
  clear hz
  unfold alikeB keyEq at hz0
  simp only at hz0
  rcases alike_cases (type1 = type2) (id1 = id2) (adv1 = adv2) (mask1 = mask2) (cost1 = cost2) (links1.length = links2.length ∧ routers1.length = routers2.length) True with hn | ⟨rfl, hn⟩ | ⟨rfl, rfl, hn⟩ | ⟨rfl, rfl, rfl, hn⟩ | ⟨rfl, rfl, rfl, rfl, hn⟩ | ⟨rfl, rfl, rfl, rfl, rfl, hn⟩ | ⟨rfl, rfl, rfl, rfl, rfl, hn⟩
  · obtain rfl : false = z := by rw [← hz0]; simp [hn]
    clear hz0
    go_enter Tryz.func33, Tryz.ntmps33
    go_wp2_with ((with_reducible refine at_slot 8 ?_); refine wpList_load_mid rfl 91 (.tmp 7) rfl w.heap.size 1 rfl _ _ hK1.out Tryz.underlying91 rfl keyInfoR ?_)
    go_wp2_with ((with_reducible refine at_slot 10 ?_); refine wpList_load_mid rfl 91 (.tmp 9) rfl (w.heap.size + 1) 1 rfl _ _ hK2.out Tryz.underlying91 rfl keyInfoR ?_)
    go_ret
    exact ⟨rfl, hkw'.out⟩
  · obtain rfl : false = z := by rw [← hz0]; simp [hn]
    clear hz0
    have hni : ¬ ((id1 : Nat) : Int) = (id2 : Nat) := by omega
    clear hn
    go_enter Tryz.func33, Tryz.ntmps33
    go_wp2_with ((with_reducible refine at_slot 8 ?_); refine wpList_load_mid rfl 91 (.tmp 7) rfl w.heap.size 1 rfl _ _ hK1.out Tryz.underlying91 rfl keyInfoR ?_)
    go_wp2_with ((with_reducible refine at_slot 10 ?_); refine wpList_load_mid rfl 91 (.tmp 9) rfl (w.heap.size + 1) 1 rfl _ _ hK2.out Tryz.underlying91 rfl keyInfoR ?_)
    go_ret
    exact ⟨rfl, hkw'.out⟩
  · obtain rfl : false = z := by rw [← hz0]; simp [hn]
    clear hz0
    have hni : ¬ ((adv1 : Nat) : Int) = (adv2 : Nat) := by omega
    clear hn
    go_enter Tryz.func33, Tryz.ntmps33
    go_wp2_with ((with_reducible refine at_slot 8 ?_); refine wpList_load_mid rfl 91 (.tmp 7) rfl w.heap.size 1 rfl _ _ hK1.out Tryz.underlying91 rfl keyInfoR ?_)
    go_wp2_with ((with_reducible refine at_slot 10 ?_); refine wpList_load_mid rfl 91 (.tmp 9) rfl (w.heap.size + 1) 1 rfl _ _ hK2.out Tryz.underlying91 rfl keyInfoR ?_)
    go_ret
    exact ⟨rfl, hkw'.out⟩
  · obtain rfl : false = z := by rw [← hz0]; simp [hn]
    clear hz0
    have hni : ¬ ((mask1 : Nat) : Int) = (mask2 : Nat) := by omega
    clear hn
    go_enter Tryz.func33, Tryz.ntmps33
    go_wp2_with ((with_reducible refine at_slot 8 ?_); refine wpList_load_mid rfl 91 (.tmp 7) rfl w.heap.size 1 rfl _ _ hK1.out Tryz.underlying91 rfl keyInfoR ?_)
    go_wp2_with ((with_reducible refine at_slot 10 ?_); refine wpList_load_mid rfl 91 (.tmp 9) rfl (w.heap.size + 1) 1 rfl _ _ hK2.out Tryz.underlying91 rfl keyInfoR ?_)
    go_ret
    exact ⟨rfl, hkw'.out⟩
  · obtain rfl : false = z := by rw [← hz0]; simp [hn]
    clear hz0
    go_enter Tryz.func33, Tryz.ntmps33
    go_wp2_with ((with_reducible refine at_slot 8 ?_); refine wpList_load_mid rfl 91 (.tmp 7) rfl w.heap.size 1 rfl _ _ hK1.out Tryz.underlying91 rfl keyInfoR ?_)
    go_wp2_with ((with_reducible refine at_slot 10 ?_); refine wpList_load_mid rfl 91 (.tmp 9) rfl (w.heap.size + 1) 1 rfl _ _ hK2.out Tryz.underlying91 rfl keyInfoR ?_)
    go_ret
    exact ⟨rfl, hkw'.out⟩
  · obtain rfl : false = z := by
      rw [← hz0]
      by_cases e : links1.length = links2.length
      · rw [numsEq_len (fun e2 => hn ⟨e, e2⟩)]; simp
      · rw [linksEq_len e]; simp
    clear hz0
    by_cases e : links1.length = links2.length
    · have hni : ¬ ((routers1.length : Nat) : Int) = (routers2.length : Nat) := by have : ¬ routers1.length = routers2.length := fun e2 => hn ⟨e, e2⟩; omega
      have e' : ((links1.length : Nat) : Int) = (links2.length : Nat) := by omega
      clear hn e
      go_enter Tryz.func33, Tryz.ntmps33
      go_wp2_with ((with_reducible refine at_slot 8 ?_); refine wpList_load_mid rfl 91 (.tmp 7) rfl w.heap.size 1 rfl _ _ hK1.out Tryz.underlying91 rfl keyInfoR ?_)
      go_wp2_with ((with_reducible refine at_slot 10 ?_); refine wpList_load_mid rfl 91 (.tmp 9) rfl (w.heap.size + 1) 1 rfl _ _ hK2.out Tryz.underlying91 rfl keyInfoR ?_)
      go_ret
      exact ⟨rfl, hkw'.out⟩
    · have hni : ¬ ((links1.length : Nat) : Int) = (links2.length : Nat) := by omega
      clear hn e
      go_enter Tryz.func33, Tryz.ntmps33
      go_wp2_with ((with_reducible refine at_slot 8 ?_); refine wpList_load_mid rfl 91 (.tmp 7) rfl w.heap.size 1 rfl _ _ hK1.out Tryz.underlying91 rfl keyInfoR ?_)
      go_wp2_with ((with_reducible refine at_slot 10 ?_); refine wpList_load_mid rfl 91 (.tmp 9) rfl (w.heap.size + 1) 1 rfl _ _ hK2.out Tryz.underlying91 rfl keyInfoR ?_)
      go_ret
      exact ⟨rfl, hkw'.out⟩
  · obtain ⟨he1, he2⟩ := hn
    have e1 : ((links1.length : Nat) : Int) = (links2.length : Nat) := by omega
    have e2 : ((routers1.length : Nat) : Int) = (routers2.length : Nat) := by omega
    have he1' := Lib.hid he1
    have he2' := Lib.hid he2
    clear he1 he2
    have hz1 : Hid ((linksEq links1 links2 && numsEq routers1 routers2) = z) := Lib.hid (by rw [← hz0]; simp)
    clear hz0
    go_enter Tryz.func33, Tryz.ntmps33
    go_wp2_with ((with_reducible refine at_slot 8 ?_); refine wpList_load_mid rfl 91 (.tmp 7) rfl w.heap.size 1 rfl _ _ hK1.out Tryz.underlying91 rfl keyInfoR ?_)
    go_wp2_with ((with_reducible refine at_slot 10 ?_); refine wpList_load_mid rfl 91 (.tmp 9) rfl (w.heap.size + 1) 1 rfl _ _ hK2.out Tryz.underlying91 rfl keyInfoR ?_)
    clear e1 e2
    go_loopw [5] (fun iv wr => ∃ k : Nat, k ≤ links1.length ∧ iv = .int .i64 k ∧ Hid ((linksEq (links1.drop k) (links2.drop k) && numsEq routers1 routers2) = z) ∧ Hid (∃ m, wr = World.drewN ((w.alloc (.cells #[.int .i64 age1, .int .i64 type1, .int .u32 id1, .int .u32 adv1, .int .i64 seq1, .slice p5 links1.length c5, .int .u32 mask1, .slice p7 routers1.length c7, .int .i64 cost1] 94)).alloc (.cells #[.int .i64 age2, .int .i64 type1, .int .u32 id1, .int .u32 adv1, .int .i64 seq2, .slice q5 links2.length d5, .int .u32 mask1, .slice q7 routers2.length d7, .int .i64 cost1] 94)) m)) (fun iv _ => links1.length - (intOf iv).toNat)
    case atStart => exact ⟨0, by omega, rfl, Lib.hid hz1.out, Lib.hid ⟨0, rfl⟩⟩
    case round =>
      obtain ⟨k, hk, rfl, heq, hm⟩ := hrel
      clear hz1
      have b1 : wr.cell? ⟨w.heap.size, 5, none⟩ = some (.slice p5 links1.length c5) := by obtain ⟨m, rfl⟩ := hm.out; exact (hA.out.next ((Keeps.refl _ _).drewN m)).cell 5 _ rfl
      have b2 : wr.cell? ⟨w.heap.size + 1, 5, none⟩ = some (.slice q5 links2.length d5) := by obtain ⟨m, rfl⟩ := hm.out; exact (hB.out.next ((Keeps.refl _ _).drewN m)).cell 5 _ rfl
      have b3 : wr.cell? ⟨w.heap.size, 7, none⟩ = some (.slice p7 routers1.length c7) := by obtain ⟨m, rfl⟩ := hm.out; exact (hA.out.next ((Keeps.refl _ _).drewN m)).cell 7 _ rfl
      have b4 : wr.cell? ⟨w.heap.size + 1, 7, none⟩ = some (.slice q7 routers2.length d7) := by obtain ⟨m, rfl⟩ := hm.out; exact (hB.out.next ((Keeps.refl _ _).drewN m)).cell 7 _ rfl
      by_cases hlk : k < links1.length
      · have hlk2 : k < links2.length := by have := he1'.out; omega
        obtain ⟨g, o, rfl, hr1⟩ := hL1'.out.open (by omega)
        obtain ⟨g2, o2, rfl, hr2⟩ := hL2'.out.open (by omega)
        obtain ⟨l1, hl1⟩ : ∃ l, links1[k] = l := ⟨_, rfl⟩
        obtain ⟨l2, hl2⟩ : ∃ l, links2[k] = l := ⟨_, rfl⟩
        have r1 : wr.rangeAt g (o + k * 4) (linkVals l1) := by obtain ⟨m, rfl⟩ := hm.out; exact hr1 k l1 (by rw [List.getElem?_eq_getElem hlk, hl1])
        have r2 : wr.rangeAt g2 (o2 + k * 4) (linkVals l2) := by obtain ⟨m, rfl⟩ := hm.out; exact hr2 k l2 (by rw [List.getElem?_eq_getElem hlk2, hl2])
        have hst := linksEq_step hlk hlk2
        rw [hl1, hl2] at hst
        have heq2 := heq.out
        rw [hst] at heq2
        have hlk2i : (k : Int) < links2.length := by omega
        obtain ⟨i1, d1, t1, s1⟩ := l1
        obtain ⟨i2, d2, t2, s2⟩ := l2
        have c10 := r1 0 (.int .u32 i1) rfl
        have c11 := r1 1 (.int .u32 d1) rfl
        have c12 := r1 2 (.int .i64 t1) rfl
        have c13 := r1 3 (.int .i64 s1) rfl
        have c20 := r2 0 (.int .u32 i2) rfl
        have c21 := r2 1 (.int .u32 d2) rfl
        have c22 := r2 2 (.int .i64 t2) rfl
        have c23 := r2 3 (.int .i64 s2) rfl
        rw [Nat.add_zero] at c10 c20
        have hst' := Lib.hid heq2
        clear hst heq heq2 hl1 hl2 r1 r2 hr1 hr2 b3 b4
        rcases link_four i1 d1 i2 d2 t1 s1 t2 s2 with ⟨rfl, rfl, rfl, rfl⟩ | hn | ⟨rfl, hn⟩ | ⟨rfl, rfl, hn⟩ | ⟨rfl, rfl, rfl, hn⟩
        · have hz1 : Hid ((linksEq (links1.drop (k + 1)) (links2.drop (k + 1)) && numsEq routers1 routers2) = z) := Lib.hid (by rw [← hst'.out]; simp [linkEq])
          clear hst'
          go_wp2_with fail
          go_quiet (fail)
          go_wp2_with fail
          exact ⟨⟨k + 1, by omega, by go_num, hz1, by obtain ⟨m, rfl⟩ := hm.out; exact Lib.hid ⟨m + nq, by rw [World.drewN_drewN]⟩⟩, by simp [intOf]; omega⟩
        · have hz1 : Hid (z = false) := Lib.hid (by rw [← hst'.out]; simp [linkEq, hn])
          clear hst'
          have hni : ¬ ((i1 : Nat) : Int) = (i2 : Nat) := by omega
          clear hn
          go_wp2_with fail
          go_quiet (fail)
          go_wp2_with fail
          go_ret
          exact ⟨by rw [hz1.out]; rfl, by obtain ⟨m, rfl⟩ := hm.out; exact (hkw'.out.drewN m).drewN nq⟩
        · have hz1 : Hid (z = false) := Lib.hid (by rw [← hst'.out]; simp [linkEq, hn])
          clear hst'
          have hni : ¬ ((d1 : Nat) : Int) = (d2 : Nat) := by omega
          clear hn
          go_wp2_with fail
          go_quiet (fail)
          go_wp2_with fail
          go_ret
          exact ⟨by rw [hz1.out]; rfl, by obtain ⟨m, rfl⟩ := hm.out; exact (hkw'.out.drewN m).drewN nq⟩
        · have hz1 : Hid (z = false) := Lib.hid (by rw [← hst'.out]; simp [linkEq, hn])
          clear hst'
          go_wp2_with fail
          go_quiet (fail)
          go_wp2_with fail
          go_ret
          exact ⟨by rw [hz1.out]; rfl, by obtain ⟨m, rfl⟩ := hm.out; exact (hkw'.out.drewN m).drewN nq⟩
        · have hz1 : Hid (z = false) := Lib.hid (by rw [← hst'.out]; simp [linkEq, hn])
          clear hst'
          go_wp2_with fail
          go_quiet (fail)
          go_wp2_with fail
          go_ret
          exact ⟨by rw [hz1.out]; rfl, by obtain ⟨m, rfl⟩ := hm.out; exact (hkw'.out.drewN m).drewN nq⟩
      · have hz2 : Hid (numsEq routers1 routers2 = z) := Lib.hid (by
          rw [← heq.out, List.drop_of_length_le (by omega), List.drop_of_length_le (by have := he1'.out; omega)]; rfl)
        clear heq
        go_wp2_with fail
        clear b1 b2 b3 b4
        go_loopw [6] (fun iv wr => ∃ k : Nat, k ≤ routers1.length ∧ iv = .int .i64 k ∧ Hid (numsEq (routers1.drop k) (routers2.drop k) = z) ∧ Hid (∃ m, wr = World.drewN ((w.alloc (.cells #[.int .i64 age1, .int .i64 type1, .int .u32 id1, .int .u32 adv1, .int .i64 seq1, .slice p5 links1.length c5, .int .u32 mask1, .slice p7 routers1.length c7, .int .i64 cost1] 94)).alloc (.cells #[.int .i64 age2, .int .i64 type1, .int .u32 id1, .int .u32 adv1, .int .i64 seq2, .slice q5 links2.length d5, .int .u32 mask1, .slice q7 routers2.length d7, .int .i64 cost1] 94)) m)) (fun iv _ => routers1.length - (intOf iv).toNat)
        case atStart => exact ⟨0, by omega, rfl, Lib.hid hz2.out, hm⟩
        case round =>
          clear hz2 hm hlk
          obtain ⟨k, hk, rfl, heq, hm⟩ := hrel
          have b3 : wr.cell? ⟨w.heap.size, 7, none⟩ = some (.slice p7 routers1.length c7) := by obtain ⟨m, rfl⟩ := hm.out; exact (hA.out.next ((Keeps.refl _ _).drewN m)).cell 7 _ rfl
          have b4 : wr.cell? ⟨w.heap.size + 1, 7, none⟩ = some (.slice q7 routers2.length d7) := by obtain ⟨m, rfl⟩ := hm.out; exact (hB.out.next ((Keeps.refl _ _).drewN m)).cell 7 _ rfl
          by_cases hlk : k < routers1.length
          · have hlk2 : k < routers2.length := by have := he2'.out; omega
            obtain ⟨g, o, rfl, hr1⟩ := hR1'.out.open (by omega)
            obtain ⟨g2, o2, rfl, hr2⟩ := hR2'.out.open (by omega)
            have c1 : wr.cell? ⟨g, o + k, none⟩ = some (.int .u32 (routers1[k] : Nat)) := by obtain ⟨m, rfl⟩ := hm.out; exact hr1 k _ (by simp [hlk, nv])
            have c2 : wr.cell? ⟨g2, o2 + k, none⟩ = some (.int .u32 (routers2[k] : Nat)) := by obtain ⟨m, rfl⟩ := hm.out; exact hr2 k _ (by simp [hlk2, nv])
            have hst := numsEq_step hlk hlk2
            rw [heq.out] at hst
            have hlk2i : (k : Int) < routers2.length := by omega
            by_cases he : routers1[k] = routers2[k]
            · have hb0 : ((routers1[k] : Int) != (routers2[k] : Int)) = false := by rw [he]; simp
              have hz1 : Hid (numsEq (routers1.drop (k + 1)) (routers2.drop (k + 1)) = z) := Lib.hid (by rw [hst]; simp [he])
              clear he hst heq hr1 hr2
              go_wp2_with fail
              go_quiet (fail)
              go_wp2_with fail
              exact ⟨⟨k + 1, by omega, by go_num, hz1, by obtain ⟨m, rfl⟩ := hm.out; exact Lib.hid ⟨m + nq, by rw [World.drewN_drewN]⟩⟩, by simp [intOf]; omega⟩
            · have hb0 : ((routers1[k] : Int) != (routers2[k] : Int)) = true := by rw [bne_iff_ne]; omega
              have hz1 : Hid (z = false) := Lib.hid (by rw [hst]; simp [he])
              clear he hst heq hr1 hr2
              go_wp2_with fail
              go_quiet (fail)
              go_wp2_with fail
              go_ret
              exact ⟨by rw [hz1.out]; rfl, by obtain ⟨m, rfl⟩ := hm.out; exact (hkw'.out.drewN m).drewN nq⟩
          · have hz1 : Hid (z = true) := Lib.hid (by
              rw [← heq.out, List.drop_of_length_le (by omega), List.drop_of_length_le (by have := he2'.out; omega)]; rfl)
            clear heq
            go_wp2_with fail
            go_ret
            exact ⟨by rw [hz1.out]; rfl, by obtain ⟨m, rfl⟩ := hm.out; exact hkw'.out.drewN m⟩
end Go.Proofs.YtialookpnoaogaaGreat
/- The document's Same, walked (gen_lv.py writes this); the append of numbers. -/
namespace Go.Proofs.YtialookpnoaogaaGreat
open Go.RowKit

theorem lsaInfoR : (Tryz.prog.info? 94).map (·.size) = some 9 := by kernel_rfl
def sameB (a b : LsaD) : Bool := alikeB a b && (decide (a.age = b.age) && decide (a.seq = b.seq))
theorem int_beq {a b : Int} {z : Bool} (h : decide (a = b) = z) : (a == b) = z := by rw [← h]; rfl
set_option maxRecDepth 100000 in
set_option maxHeartbeats 4000000 in
theorem r10Same_any (age1 type1 seq1 cost1 age2 type2 seq2 cost2 : Int) (id1 adv1 mask1 id2 adv2 mask2 : Nat) (links1 links2 : List LinkD) (routers1 routers2 : List Nat) (p5 p7 q5 q7 : Option Addr) (c5 c7 d5 d7 : Nat) (z : Bool) (w : World)
    (hl1 : links1.length ≤ 9223372036854775807) (hl2 : links2.length ≤ 9223372036854775807) (hr1 : routers1.length ≤ 9223372036854775807) (hr2 : routers2.length ≤ 9223372036854775807)
    (hL1 : Hid (LinksAt w (.slice p5 links1.length c5) links1)) (hL2 : Hid (LinksAt w (.slice q5 links2.length d5) links2)) (hR1 : Hid (NumsAt w (.slice p7 routers1.length c7) routers1)) (hR2 : Hid (NumsAt w (.slice q7 routers2.length d7) routers2))
    (hz : Hid (sameB ⟨age1, type1, id1, adv1, seq1, links1, mask1, routers1, cost1⟩ ⟨age2, type2, id2, adv2, seq2, links2, mask2, routers2, cost2⟩ = z)) :
    Calls Tryz.prog 35 #[.agg #[.int .i64 age1, .int .i64 type1, .int .u32 id1, .int .u32 adv1, .int .i64 seq1, .slice p5 links1.length c5, .int .u32 mask1, .slice p7 routers1.length c7, .int .i64 cost1], .agg #[.int .i64 age2, .int .i64 type2, .int .u32 id2, .int .u32 adv2, .int .i64 seq2, .slice q5 links2.length d5, .int .u32 mask2, .slice q7 routers2.length d7, .int .i64 cost2]] w (fun e w' => e = .returned (.bool z) ∧ Keeps (fun _ => False) w w') := by
  have hkw : Keeps (fun _ => False) w ((w.alloc (.cells #[.int .i64 age1, .int .i64 type1, .int .u32 id1, .int .u32 adv1, .int .i64 seq1, .slice p5 links1.length c5, .int .u32 mask1, .slice p7 routers1.length c7, .int .i64 cost1] 94)).alloc (.cells #[.int .i64 age2, .int .i64 type2, .int .u32 id2, .int .u32 adv2, .int .i64 seq2, .slice q5 links2.length d5, .int .u32 mask2, .slice q7 routers2.length d7, .int .i64 cost2] 94)) := ((Keeps.refl _ _).alloc _).alloc _
  have hA := Lib.hid ((boxed_new w [.int .i64 age1, .int .i64 type1, .int .u32 id1, .int .u32 adv1, .int .i64 seq1, .slice p5 links1.length c5, .int .u32 mask1, .slice p7 routers1.length c7, .int .i64 cost1] 94).next ((Keeps.refl _ _).alloc (.cells #[.int .i64 age2, .int .i64 type2, .int .u32 id2, .int .u32 adv2, .int .i64 seq2, .slice q5 links2.length d5, .int .u32 mask2, .slice q7 routers2.length d7, .int .i64 cost2] 94)))
  have hB : Hid (Boxed (w.heap.size + 1) [.int .i64 age2, .int .i64 type2, .int .u32 id2, .int .u32 adv2, .int .i64 seq2, .slice q5 links2.length d5, .int .u32 mask2, .slice q7 routers2.length d7, .int .i64 cost2] (w.alloc (.cells #[.int .i64 age1, .int .i64 type1, .int .u32 id1, .int .u32 adv1, .int .i64 seq1, .slice p5 links1.length c5, .int .u32 mask1, .slice p7 routers1.length c7, .int .i64 cost1] 94)) ((w.alloc (.cells #[.int .i64 age1, .int .i64 type1, .int .u32 id1, .int .u32 adv1, .int .i64 seq1, .slice p5 links1.length c5, .int .u32 mask1, .slice p7 routers1.length c7, .int .i64 cost1] 94)).alloc (.cells #[.int .i64 age2, .int .i64 type2, .int .u32 id2, .int .u32 adv2, .int .i64 seq2, .slice q5 links2.length d5, .int .u32 mask2, .slice q7 routers2.length d7, .int .i64 cost2] 94))) := Lib.hid (by
    have := boxed_new (w.alloc (.cells #[.int .i64 age1, .int .i64 type1, .int .u32 id1, .int .u32 adv1, .int .i64 seq1, .slice p5 links1.length c5, .int .u32 mask1, .slice p7 routers1.length c7, .int .i64 cost1] 94)) [.int .i64 age2, .int .i64 type2, .int .u32 id2, .int .u32 adv2, .int .i64 seq2, .slice q5 links2.length d5, .int .u32 mask2, .slice q7 routers2.length d7, .int .i64 cost2] 94
    simpa using this)
  have hL1' := Lib.hid (hL1.out.keep hkw)
  have hL2' := Lib.hid (hL2.out.keep hkw)
  have hR1' := Lib.hid (hR1.out.keep hkw)
  have hR2' := Lib.hid (hR2.out.keep hkw)
  have hkw' := Lib.hid hkw
  clear hkw hL1 hL2 hR1 hR2
  have hz0 := hz.out
  clear hz
  unfold sameB at hz0
  simp only at hz0
  cases hal0 : alikeB ⟨age1, type1, id1, adv1, seq1, links1, mask1, routers1, cost1⟩ ⟨age2, type2, id2, adv2, seq2, links2, mask2, routers2, cost2⟩
  · rw [hal0] at hz0
    have hal := Lib.hid hal0
    clear hal0
    obtain rfl : false = z := hz0
    go_enter Tryz.func35, Tryz.ntmps35
    go_wp2_with ((with_reducible refine at_slot 5 ?_); refine wpList_load_mid rfl 94 (.tmp 2) rfl w.heap.size 0 rfl _ _ hA.out.r Tryz.underlying94 rfl lsaInfoR ?_)
    go_wp2_with ((with_reducible refine at_slot 6 ?_); refine wpList_load_mid rfl 94 (.tmp 3) rfl (w.heap.size + 1) 0 rfl _ _ hB.out.r Tryz.underlying94 rfl lsaInfoR ?_)
    refine (r10Alike_any age1 type1 seq1 cost1 age2 type2 seq2 cost2 id1 adv1 mask1 id2 adv2 mask2 links1 links2 routers1 routers2 p5 p7 q5 q7 c5 c7 d5 d7 false _ hl1 hl2 hr1 hr2 hL1' hL2' hR1' hR2' hal).mono ?_
    rintro e w2 ⟨rfl, k2⟩
    have kk := Lib.hid (hkw'.out.trans k2)
    have b1 := (hA.out.next k2).cell 0 (.int .i64 age1) rfl
    have b2 := (hB.out.next k2).cell 0 (.int .i64 age2) rfl
    have b3 := (hA.out.next k2).cell 4 (.int .i64 seq1) rfl
    have b4 := (hB.out.next k2).cell 4 (.int .i64 seq2) rfl
    clear k2
    go_wp2_with fail
    go_ret
    exact ⟨rfl, kk.out⟩
  · rw [hal0] at hz0
    have hal := Lib.hid hal0
    clear hal0
    by_cases h1 : age1 = age2
    · by_cases h2 : seq1 = seq2
      · obtain rfl : true = z := by rw [← hz0]; simp [h1, h2]
        have e1 : (age1 == age2) = true := by rw [h1]; simp
        have e2 : (seq1 == seq2) = true := by rw [h2]; simp
        clear hz0 h1 h2
        go_enter Tryz.func35, Tryz.ntmps35
        go_wp2_with ((with_reducible refine at_slot 5 ?_); refine wpList_load_mid rfl 94 (.tmp 2) rfl w.heap.size 0 rfl _ _ hA.out.r Tryz.underlying94 rfl lsaInfoR ?_)
        go_wp2_with ((with_reducible refine at_slot 6 ?_); refine wpList_load_mid rfl 94 (.tmp 3) rfl (w.heap.size + 1) 0 rfl _ _ hB.out.r Tryz.underlying94 rfl lsaInfoR ?_)
        refine (r10Alike_any age1 type1 seq1 cost1 age2 type2 seq2 cost2 id1 adv1 mask1 id2 adv2 mask2 links1 links2 routers1 routers2 p5 p7 q5 q7 c5 c7 d5 d7 true _ hl1 hl2 hr1 hr2 hL1' hL2' hR1' hR2' hal).mono ?_
        rintro e w2 ⟨rfl, k2⟩
        have kk := Lib.hid (hkw'.out.trans k2)
        have b1 := (hA.out.next k2).cell 0 (.int .i64 age1) rfl
        have b2 := (hB.out.next k2).cell 0 (.int .i64 age2) rfl
        have b3 := (hA.out.next k2).cell 4 (.int .i64 seq1) rfl
        have b4 := (hB.out.next k2).cell 4 (.int .i64 seq2) rfl
        clear k2
        go_wp2_with fail
        go_ret
        exact ⟨rfl, kk.out⟩
      · obtain rfl : false = z := by rw [← hz0]; simp [h2]
        have e1 : (age1 == age2) = true := by rw [h1]; simp
        have e2 : (seq1 == seq2) = false := by rw [beq_eq_false_iff_ne]; exact h2
        clear hz0 h1 h2
        go_enter Tryz.func35, Tryz.ntmps35
        go_wp2_with ((with_reducible refine at_slot 5 ?_); refine wpList_load_mid rfl 94 (.tmp 2) rfl w.heap.size 0 rfl _ _ hA.out.r Tryz.underlying94 rfl lsaInfoR ?_)
        go_wp2_with ((with_reducible refine at_slot 6 ?_); refine wpList_load_mid rfl 94 (.tmp 3) rfl (w.heap.size + 1) 0 rfl _ _ hB.out.r Tryz.underlying94 rfl lsaInfoR ?_)
        refine (r10Alike_any age1 type1 seq1 cost1 age2 type2 seq2 cost2 id1 adv1 mask1 id2 adv2 mask2 links1 links2 routers1 routers2 p5 p7 q5 q7 c5 c7 d5 d7 true _ hl1 hl2 hr1 hr2 hL1' hL2' hR1' hR2' hal).mono ?_
        rintro e w2 ⟨rfl, k2⟩
        have kk := Lib.hid (hkw'.out.trans k2)
        have b1 := (hA.out.next k2).cell 0 (.int .i64 age1) rfl
        have b2 := (hB.out.next k2).cell 0 (.int .i64 age2) rfl
        have b3 := (hA.out.next k2).cell 4 (.int .i64 seq1) rfl
        have b4 := (hB.out.next k2).cell 4 (.int .i64 seq2) rfl
        clear k2
        go_wp2_with fail
        go_ret
        exact ⟨rfl, kk.out⟩
    · obtain rfl : false = z := by rw [← hz0]; simp [h1]
      have e1 : (age1 == age2) = false := by rw [beq_eq_false_iff_ne]; exact h1
      clear hz0 h1
      go_enter Tryz.func35, Tryz.ntmps35
      go_wp2_with ((with_reducible refine at_slot 5 ?_); refine wpList_load_mid rfl 94 (.tmp 2) rfl w.heap.size 0 rfl _ _ hA.out.r Tryz.underlying94 rfl lsaInfoR ?_)
      go_wp2_with ((with_reducible refine at_slot 6 ?_); refine wpList_load_mid rfl 94 (.tmp 3) rfl (w.heap.size + 1) 0 rfl _ _ hB.out.r Tryz.underlying94 rfl lsaInfoR ?_)
      refine (r10Alike_any age1 type1 seq1 cost1 age2 type2 seq2 cost2 id1 adv1 mask1 id2 adv2 mask2 links1 links2 routers1 routers2 p5 p7 q5 q7 c5 c7 d5 d7 true _ hl1 hl2 hr1 hr2 hL1' hL2' hR1' hR2' hal).mono ?_
      rintro e w2 ⟨rfl, k2⟩
      have kk := Lib.hid (hkw'.out.trans k2)
      have b1 := (hA.out.next k2).cell 0 (.int .i64 age1) rfl
      have b2 := (hB.out.next k2).cell 0 (.int .i64 age2) rfl
      have b3 := (hA.out.next k2).cell 4 (.int .i64 seq1) rfl
      have b4 := (hB.out.next k2).cell 4 (.int .i64 seq2) rfl
      clear k2
      go_wp2_with fail
      go_ret
      exact ⟨rfl, kk.out⟩

theorem wp_append_n {P : Program} {w : World} {o : Oper} {a : Act} {K : Act → World → Prop} {Q : Exit → Act → World → Prop} (s x : Operand) (t : TypeId)
    (ho : o.op = .call { callee := .builtin .append, args := #[s, x], argTypes := #[t, t] })
    (i : TypeInfo) (ht : P.underlying t = some (.slice 40)) (hi : P.info? 40 = some i) (hz : i.zero = some (.int .u32 0)) (hsize : i.size = 1) (hby : i.bytes = 4)
    (w0 : World) (v : Value) (n : Nat) (xs : List Nat) (hn : xs.length = n) (hs : a.eval s = v) (hown : OwnN w0 w v xs) (ad : Addr) (c0 : Nat) (ys : List Nat) (hx : a.eval x = .slice (some ad) ys.length c0) (hl : ∀ j u, (ys.map nv)[j]? = some u → w.cell? (ad.add j) = some u) (hsz : n + ys.length ≤ 1000000000)
    (h : ∀ p c w', OwnN w0 w' (.slice p (n + ys.length) c) (xs ++ ys) → Grown w v p (n + ys.length) c w' → K (a.put o.dst (.slice p (n + ys.length) c)) w') : Oper.wp P o a w K Q := by
  subst hn
  obtain ⟨v', w', hr, h2, h3, h4⟩ := run_append_sep (P := P) w t o.type 40 i (.int .u32 0) 1 4 ht hi hz hsize hby rfl (by decide) v xs.length (xs.map nv) hown.1 ad ys.length c0 (ys.map nv) (by simp) hl (by intro u hu; obtain ⟨n, -, rfl⟩ := List.mem_map.1 hu; rfl) (by unfold maxLen; omega) (by omega)
  obtain ⟨p, c, rfl⟩ := ownsRow_slice h2
  unfold Oper.wp execOp
  simp only [ho, resolve, invoke, builtin, Sem.run_bind, Sem.run_pure, Result.andThen_ok, List.map_toArray, List.map_cons, List.map_nil, hs, hx, hr]
  refine h p c w' ⟨by rw [List.map_append, List.length_append]; exact h2, fun k e => ?_, Nat.le_trans hown.2.2 h3.size⟩ ⟨(Keeps.refl _ _).grown h3 (fun k e => .inl e), h4⟩
  rcases h4 k e with e | e
  · exact hown.2.1 k e
  · exact Nat.le_trans hown.2.2 e
end Go.Proofs.YtialookpnoaogaaGreat
/- Numbers of whatever source behind numbers of the call's own; a new row of none. -/
namespace Go.Proofs.YtialookpnoaogaaGreat
open Go.RowKit

theorem run_append_nums {P : Program} (w : World) (t ty : TypeId) (i : TypeInfo) (ht : P.underlying t = some (.slice 40)) (hi : P.info? 40 = some i) (hz : i.zero = some (.int .u32 0)) (hsize : i.size = 1) (hby : i.bytes = 4)
    (w0 : World) (v : Value) (xs : List Nat) (hown : OwnN w0 w v xs) (sv : Value) (l : List Nat) (hl : NumsAt w sv l) (hsz : xs.length + l.length ≤ 1000000000) :
    ∃ p c w', (Builtin.append_ #[t, t] ty #[v, sv]).run P w = .ok (.slice p (xs.length + l.length) c) w' ∧ OwnN w0 w' (.slice p (xs.length + l.length) c) (xs ++ l) ∧ Grown w v p (xs.length + l.length) c w' := by
  obtain ⟨sp, sc, rfl, hp, -, hlr⟩ := hl
  cases sp with
  | none =>
    have h0 : l.length = 0 := by
      rcases Nat.eq_zero_or_pos l.length with h | h
      · exact h
      · obtain ⟨b, o, e, _⟩ := hlr h; cases e
    have hc := hp rfl
    subst hc
    have hl0 : l = [] := List.length_eq_zero_iff.1 h0
    subst hl0
    obtain ⟨p, c, rfl⟩ := hown.slice
    exact ⟨p, c, w, run_append_owned_none (P := P) (w := w) 0 t ty 40 i 1 ht hi _ xs.length (xs.map nv) hown.1, by simpa using hown, Keeps.refl _ _, fun k e => .inl e⟩
  | some ad =>
    obtain ⟨v', w', hr, h2, h3, h4⟩ := run_append_sep (P := P) w t ty 40 i (.int .u32 0) 1 4 ht hi hz hsize hby rfl (by decide) v xs.length (xs.map nv) hown.1 ad l.length sc (l.map nv) (by simp) (fun j u hu => by
      have h0 : 0 < l.length := by
        have := (List.getElem?_eq_some_iff.1 hu).1; simp at this; omega
      obtain ⟨b, o, e, hr⟩ := hlr h0
      injection e with e; subst e
      rw [Addr.add_mid]; exact hr j u hu) (nv_one l) (by unfold maxLen; omega) (by omega)
    obtain ⟨p, c, rfl⟩ := ownsRow_slice h2
    refine ⟨p, c, w', hr, ⟨by rw [List.map_append, List.length_append]; exact h2, fun k e => ?_, Nat.le_trans hown.2.2 h3.size⟩, (Keeps.refl _ _).grown h3 (fun k e => .inl e), h4⟩
    rcases h4 k e with e | e
    · exact hown.2.1 k e
    · exact Nat.le_trans hown.2.2 e
/-- .. as one operation -/
theorem wp_append_nums {P : Program} {w : World} {o : Oper} {a : Act} {K : Act → World → Prop} {Q : Exit → Act → World → Prop} (s x : Operand) (t : TypeId)
    (ho : o.op = .call { callee := .builtin .append, args := #[s, x], argTypes := #[t, t] })
    (i : TypeInfo) (ht : P.underlying t = some (.slice 40)) (hi : P.info? 40 = some i) (hz : i.zero = some (.int .u32 0)) (hsize : i.size = 1) (hby : i.bytes = 4)
    (w0 : World) (v : Value) (n : Nat) (xs : List Nat) (hn : xs.length = n) (hs : a.eval s = v) (hown : OwnN w0 w v xs) (sv : Value) (hx : a.eval x = sv) (l : List Nat) (hl : NumsAt w sv l) (hsz : n + l.length ≤ 1000000000)
    (h : ∀ p c w', OwnN w0 w' (.slice p (n + l.length) c) (xs ++ l) → Grown w v p (n + l.length) c w' → K (a.put o.dst (.slice p (n + l.length) c)) w') : Oper.wp P o a w K Q := by
  subst hn
  obtain ⟨p, c, w', hr, h2, h3⟩ := run_append_nums (P := P) w t o.type i ht hi hz hsize hby w0 v xs hown sv l hl hsz
  unfold Oper.wp execOp
  simp only [ho, resolve, invoke, builtin, Sem.run_bind, Sem.run_pure, Result.andThen_ok, List.map_toArray, List.map_cons, List.map_nil, hs, hx, hr]
  exact h p c w' h2 h3
theorem OwnN.new (w0 w : World) (h : w0.heap.size ≤ w.heap.size) (l : List Nat) {n : Nat} (hn : l.length = n) (hm : n ≤ maxLen) : OwnN w0 (w.alloc (.cells (l.map nv).toArray 40)) (.slice (some ⟨w.heap.size, 0, none⟩) n n) l := by
  subst hn
  refine ⟨⟨by simp, .inr ⟨w.heap.size, l.length, (l.map nv).toArray, rfl, Nat.zero_le _, heap_alloc_last w _, Nat.le_refl _, hm, by simp, ?_⟩⟩, fun k e => by simp only [Value.ownBlock, Option.some.injEq] at e; omega, by simp; omega⟩
  rw [List.take_of_length_le (by simp)]
end Go.Proofs.YtialookpnoaogaaGreat
