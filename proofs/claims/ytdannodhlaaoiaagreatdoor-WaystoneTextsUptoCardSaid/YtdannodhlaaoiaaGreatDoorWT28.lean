/- Write, plain: the code's text of a command and the document's are read alike. -/
import Derived.Test.YtdannodhlaaoiaaGreatDoorWT27
import Derived.Test.YtdannodhlaaoiaaGreatDoorWT11
import Derived.Lib.Join
import Derived.Test.YtdannodhlaaoiaaGreatDoorWT17
import Derived.Deep.DeepCutAuto
import Derived.Test.YtdannodhlaaoiaaGreatDoorWT26
import Derived.BigQuiet
import Derived.Test.YtdannodhlaaoiaaGreatDoorProg
import Derived.WalkKit
import Derived.WalkSpells
import Derived.Lib.Hide
import Derived.Deep.QuietTactic
import Derived.Deep.MidRow
import Derived.Laws.CopyOwn
set_option linter.unusedVariables false
set_option linter.unusedSimpArgs false
namespace Go.Proofs.YtdannodhlaaoiaaGreatDoor
open Go.RowKit

/-- the word of a What, as a list -/
def verbW (a : Int) : List UInt8 := if 0 ≤ a ∧ a < 10 then verbsL.getD a.toNat [] else []
def headW (h : Int) : List UInt8 := if h = 1 then areaW else if h = 2 then faceW else []
def itoaL (n : Int) : List UInt8 := Lib.itoa n
/-- the words that the code writes -/
def restC (c : CmdD) : List (List UInt8) :=
  if c.what = 1 ∨ c.what = 2 then
    (if c.head ≠ 0 then [headW c.head, c.name] else []) ++ (if c.leaf ≠ [] then [c.leaf] else []) ++ (if c.what = 1 then [c.value] else [])
  else if c.what = 7 ∨ c.what = 9 then [itoaL c.n] else []
def textC (c : CmdD) : List UInt8 := verbW c.what ++ spaced (restC c)
def opt (l : List UInt8) : List UInt8 := if l = [] then [] else 32 :: l
/-- the text that the document writes -/
def digitsD (n : Int) : List UInt8 := if n < 0 then [45] else digs n.toNat
def headT (c : CmdD) : List UInt8 := if c.head = 1 then (32 :: areaW) ++ 32 :: c.name else if c.head = 2 then (32 :: faceW) ++ 32 :: c.name else []
def textDW (c : CmdD) : List UInt8 :=
  if c.what = 1 ∨ c.what = 2 then verbW c.what ++ headT c ++ opt c.leaf ++ opt c.value
  else if c.what = 7 ∨ c.what = 9 then verbW c.what ++ 32 :: digitsD c.n
  else verbW c.what
/-- what is read is so -/
structure ReadOkZ (c : CmdD) : Prop where
  head : c.head = 0 ∨ c.head = 1 ∨ c.head = 2
  set : c.what = 1 → c.value ≠ []
  del : c.what = 2 → c.value = []
  num : 0 ≤ c.n
theorem path_head {ws : List (List UInt8)} {p : Int × List UInt8 × List UInt8} (h : pathD ws = some p) : p.1 = 0 ∨ p.1 = 1 ∨ p.1 = 2 := by
  match ws, h with
  | [l], h =>
    rw [path1] at h
    split at h
    · injection h with h; subst h; exact .inl rfl
    · cases h
  | [x, y], h =>
    rw [path2] at h
    split at h
    · injection h with h; subst h; exact headD_cases x
    · cases h
  | [x, y, l], h =>
    rw [path3] at h
    split at h
    · split at h
      · injection h with h; subst h; exact headD_cases x
      · cases h
    · cases h
theorem num_pos {ws : List (List UInt8)} {lo hi m : Int} (h : numD ws lo hi = some m) : 0 ≤ m := by
  match ws, h with
  | [w], h =>
    rw [num1] at h
    cases hd : decL w with
    | none => rw [hd] at h; cases h
    | some n =>
      rw [hd] at h
      simp only at h
      split at h
      · injection h with h; subst h; omega
      · cases h
theorem readOkZ {t : List UInt8} {c : CmdD} (h : readD t = some c) : ReadOkZ c := by
  unfold readD at h
  cases hl : lexL t with
  | bad m => rw [hl] at h; cases h
  | ok l =>
    rw [hl] at h
    have hne := word_ne hl
    cases l with
    | nil => cases h
    | cons v rest =>
      have h : cmdD v rest = some c := h
      unfold cmdD at h
      split at h
      · cases h
      split at h
      · unfold settingD at h
        cases hp : pathD rest.dropLast with
        | none => rw [hp] at h; cases h
        | some p =>
          rw [hp] at h
          obtain ⟨ph, pn, pl⟩ := p
          simp only at h
          split at h
          · injection h with h; subst h
            have hr : rest ≠ [] := by rintro rfl; cases hp
            refine ⟨path_head hp, fun _ => ?_, fun e => absurd e (by simp), Int.le_refl _⟩
            show rest.getLastD [] ≠ []
            rw [List.getLastD_eq_getLast?, List.getLast?_eq_some_getLast hr]
            exact hne _ (List.mem_cons_of_mem _ (List.getLast_mem hr))
          · cases h
      split at h
      · cases hp : pathD rest with
        | none => rw [hp] at h; cases h
        | some p =>
          rw [hp] at h
          injection h with h; subst h
          exact ⟨path_head hp, fun e => absurd e (by simp), fun _ => rfl, Int.le_refl _⟩
      split at h
      · cases hp : numD rest 1 65535 with
        | none => rw [hp] at h; cases h
        | some p =>
          rw [hp] at h
          injection h with h; subst h
          exact ⟨.inl rfl, fun e => absurd e (by simp), fun e => absurd e (by simp), num_pos hp⟩
      split at h
      · cases hp : numD rest 0 5 with
        | none => rw [hp] at h; cases h
        | some p =>
          rw [hp] at h
          injection h with h; subst h
          exact ⟨.inl rfl, fun e => absurd e (by simp), fun e => absurd e (by simp), num_pos hp⟩
      split at h
      · injection h with h; subst h
        rename_i h1 h2 _ _ _ 
        refine ⟨.inl rfl, fun e => ?_, fun _ => rfl, Int.le_refl _⟩
        simp only at e
        omega
      · cases h
theorem spaced_nil : spaced [] = [] := rfl
theorem text_same {c : CmdD} (h : ReadOkZ c) : textC c = textDW c := by
  obtain ⟨a, hd, nm, lf, vl, n⟩ := c
  unfold textC textDW restC
  by_cases h12 : a = 1 ∨ a = 2
  · simp only [if_pos h12]
    have e2 : spaced (if lf ≠ [] then [lf] else []) = opt lf := by unfold opt; by_cases e : lf = [] <;> simp [e, spaced]
    have e3 : spaced (if a = 1 then [vl] else []) = opt vl := by
      rcases h12 with e | e
      · have := h.set e; simp only at this; unfold opt; simp [e, this, spaced]
      · have := h.del e; simp only at this; unfold opt; simp [e, this, spaced]
    have e1 : spaced (if hd ≠ 0 then [headW hd, nm] else []) = headT ⟨a, hd, nm, lf, vl, n⟩ := by
      have := h.head
      simp only at this
      rcases this with e | e | e <;> subst e <;> simp [headT, headW, spaced]
    have app : ∀ x y : List (List UInt8), spaced (x ++ y) = spaced x ++ spaced y := fun x y => by simp [spaced]
    rw [app, app, e1, e2, e3]
    simp only [List.append_assoc]
  · simp only [if_neg h12]
    by_cases h79 : a = 7 ∨ a = 9
    · simp only [if_pos h79]
      have hn := h.num
      simp only at hn
      have : itoaL n = digitsD n := by
        obtain ⟨m, rfl⟩ : ∃ m : Nat, n = m := ⟨n.toNat, by omega⟩
        unfold itoaL digitsD
        rw [itoa_digs, if_neg (by omega)]; rfl
      rw [this]
      simp [spaced]
    · simp only [if_neg h79, spaced_nil, List.append_nil]
theorem write_iff (c : CmdD) : readD (textC c) = some c ↔ readD (textDW c) = some c :=
  ⟨fun h => by rw [← text_same (readOkZ h)]; exact h, fun h => by rw [text_same (readOkZ h)]; exact h⟩
theorem write_eq {c : CmdD} (h : readD (textC c) = some c) : textC c = textDW c := text_same (readOkZ h)
end Go.Proofs.YtdannodhlaaoiaaGreatDoor
/- diff.ahead, walked; what changes, plain. -/
set_option linter.unusedVariables false
set_option linter.unusedSimpArgs false
namespace Go.Proofs.YtdannodhlaaoiaaGreatDoor
open Go.RowKit

structure ChD where
  line : LineD
  old : List UInt8
  new : List UInt8
def cVals (c : ChD) : List Value := [.int .i64 c.line.head, strv c.line.name, strv c.line.leaf, strv c.line.value, strv c.old, strv c.new]
def zeroL : LineD := ⟨0, [], [], []⟩
def aheadB (a b : List LineD) : Bool := match a, b with
  | [], _ => false
  | _ :: _, [] => true
  | x :: _, y :: _ => !lessB y x
def oneCh (l : LineD) (was is : List UInt8) : List ChD := if was = is then [] else [⟨⟨l.head, l.name, l.leaf, []⟩, was, is⟩]
def nextL (a b : List LineD) : List LineD := if aheadB a b = true then a.tail else a
def stepCh (a b : List LineD) : List ChD :=
  oneCh (if aheadB b a = true then b.headD zeroL else if aheadB a b = true then a.headD zeroL else zeroL) (if aheadB a b = true then (a.headD zeroL).value else []) (if aheadB b a = true then (b.headD zeroL).value else [])
def mergeC : Nat → List LineD → List LineD → List ChD
  | 0, _, _ => []
  | n + 1, a, b => if a = [] ∧ b = [] then [] else stepCh a b ++ mergeC n (nextL a b) (nextL b a)
theorem ahead_one {a b : List LineD} (h : ¬ (a = [] ∧ b = [])) : aheadB a b = true ∨ aheadB b a = true := by
  cases a with
  | nil =>
    cases b with
    | nil => exact absurd ⟨rfl, rfl⟩ h
    | cons y b => right; rfl
  | cons x a =>
    cases b with
    | nil => left; rfl
    | cons y b =>
      unfold aheadB
      cases h1 : lessB y x with
      | false => left; show (!lessB y x) = true; rw [h1]; rfl
      | true => right; show (!lessB x y) = true; rw [less_asymm h1]; rfl
theorem next_len (a b : List LineD) : (nextL a b).length ≤ a.length := by unfold nextL; split <;> simp
theorem next_lt {a b : List LineD} (h : aheadB a b = true) : (nextL a b).length + 1 = a.length := by
  unfold nextL
  rw [if_pos h]
  cases a with
  | nil => cases h
  | cons x a => rfl
theorem oneCh_len (l : LineD) (a b : List UInt8) : (oneCh l a b).length ≤ 1 := by unfold oneCh; split <;> simp
theorem mergeC_len : ∀ (n : Nat) (a b : List LineD), a.length + b.length ≤ n → (mergeC n a b).length ≤ n := by
  intro n
  induction n with
  | zero => intro a b _; simp [mergeC]
  | succ n ih =>
    intro a b h
    unfold mergeC
    split
    · simp
    · rename_i hne
      have h1 : (stepCh a b).length ≤ 1 := oneCh_len _ _ _
      have h2 := next_len a b
      have h3 := next_len b a
      have h4 : (nextL a b).length + (nextL b a).length ≤ n := by
        rcases ahead_one hne with e | e
        · have := next_lt e; omega
        · have := next_lt e; omega
      have := ih _ _ h4
      rw [List.length_append]; omega

set_option maxRecDepth 100000 in
set_option maxHeartbeats 4000000 in
theorem ahead_any (v u : Value) (a b : List LineD) (z : Bool) (w : World) (hv : Hid (RowsAt 4 lineVals w v a)) (hu : Hid (RowsAt 4 lineVals w u b)) (hz : Hid (aheadB a b = z)) :
    Calls Tryz.prog 53 #[v, u] w (NewRes (.bool z) w) := by
  obtain ⟨p, c, rfl⟩ := hv.out.slice
  obtain ⟨q, d, rfl⟩ := hu.out.slice
  go_enter Tryz.func53, Tryz.ntmps53
  go_upto_region 1 with fail
  cases a with
  | nil =>
    refine wp_region_noPanic ?_
    refine wp_region_held_drew (S := (fun W => Keeps (fun _ => False) w W)) (by kernel_rfl) (((Keeps.refl _ _).drew)) (fun hHeld => ?_)
    refine tk 0 rfl ?_
    refine tk 1 rfl ?_
    refine tk 2 rfl ?_
    refine tk 3 rfl ?_
    refine tkS 4 rfl ?_
    refine tkS 5 rfl ?_
    refine tkS 6 rfl ?_
    refine tkS 7 rfl ?_
    refine tkS 8 rfl ?_
    refine tkS 9 rfl ?_
    refine tkS 10 rfl ?_
    refine tkS 11 rfl ?_
    refine tkS 12 rfl ?_
    refine tkS 13 rfl ?_
    refine tkS 14 rfl ?_
    refine tkS 15 rfl ?_
    refine tkS 16 rfl ?_
    refine tk 17 rfl ?_
    refine tk 18 rfl ?_
    refine wpAnyH_done (by kernel_rfl) (NoPanic.normal ?_) _
    have hk := Lib.hid hHeld
    clear hHeld
    go_wp2_with fail
    go_ret
    exact ⟨by rw [← hz.out]; rfl, hk.out⟩
  | cons x a =>
    have n1 : (0 : Int) < ((x :: a).length : Int) := by rw [List.length_cons]; omega
    cases b with
    | nil =>
      refine wp_region_noPanic ?_
      refine wp_region_held_drew (S := (fun W => Keeps (fun _ => False) w W)) (by kernel_rfl) (((Keeps.refl _ _).drew)) (fun hHeld => ?_)
      refine tk 0 rfl ?_
      refine tk 1 rfl ?_
      refine tk 2 rfl ?_
      refine tk 3 rfl ?_
      refine tk 4 rfl ?_
      refine tk 5 rfl ?_
      refine tk 6 rfl ?_
      refine tk 7 rfl ?_
      refine tkS 8 rfl ?_
      refine tkS 9 rfl ?_
      refine tkS 10 rfl ?_
      refine tkS 11 rfl ?_
      refine tkS 12 rfl ?_
      refine tkS 13 rfl ?_
      refine tkS 14 rfl ?_
      refine tkS 15 rfl ?_
      refine tk 16 rfl ?_
      refine tk 17 rfl ?_
      refine tk 18 rfl ?_
      refine wpAnyH_done (by kernel_rfl) (NoPanic.normal ?_) _
      have hk := Lib.hid hHeld
      clear hHeld
      go_wp2_with fail
      go_ret
      exact ⟨by rw [← hz.out]; rfl, hk.out⟩
    | cons y b =>
      have n2 : ¬ ((y :: b).length : Int) = 0 := by rw [List.length_cons]; omega
      have n3 : (0 : Int) < ((y :: b).length : Int) := by rw [List.length_cons]; omega
      have n4 : ((b.length : Int) + 1 == 0) = false := by simp; omega
      obtain ⟨g, o, rfl, hr1⟩ := hv.out.open (by simp)
      obtain ⟨g2, o2, rfl, hr2⟩ := hu.out.open (by simp)
      obtain ⟨XN, hXN⟩ : ∃ N : ByteArray, N = ⟨x.name.toArray⟩ := ⟨_, rfl⟩
      obtain ⟨XF, hXF⟩ : ∃ N : ByteArray, N = ⟨x.leaf.toArray⟩ := ⟨_, rfl⟩
      obtain ⟨XV, hXV⟩ : ∃ N : ByteArray, N = ⟨x.value.toArray⟩ := ⟨_, rfl⟩
      obtain ⟨YN, hYN⟩ : ∃ N : ByteArray, N = ⟨y.name.toArray⟩ := ⟨_, rfl⟩
      obtain ⟨YF, hYF⟩ : ∃ N : ByteArray, N = ⟨y.leaf.toArray⟩ := ⟨_, rfl⟩
      obtain ⟨YV, hYV⟩ : ∃ N : ByteArray, N = ⟨y.value.toArray⟩ := ⟨_, rfl⟩
      have hrx : Hid (w.rangeAt g o [.int .i64 x.head, .string XN, .string XF, .string XV]) := Lib.hid (by rw [hXN, hXF, hXV]; simpa [lineVals, strv] using hr1 0 x rfl)
      have hry : Hid (w.rangeAt g2 o2 [.int .i64 y.head, .string YN, .string YF, .string YV]) := Lib.hid (by rw [hYN, hYF, hYV]; simpa [lineVals, strv] using hr2 0 y rfl)
      obtain ⟨zl, hzl⟩ : ∃ z, lessB y x = z := ⟨_, rfl⟩
      have hzl' : Hid (lessB ⟨y.head, YN.data.toList, YF.data.toList, YV.data.toList⟩ ⟨x.head, XN.data.toList, XF.data.toList, XV.data.toList⟩ = zl) := Lib.hid (by rw [hXN, hXF, hXV, hYN, hYF, hYV]; exact hzl)
      have hzz : Hid (z = !zl) := Lib.hid (by rw [← hz.out, ← hzl]; rfl)
      clear hXN hXF hXV hYN hYF hYV hr1 hr2 hzl hz hv hu
      refine wp_region_noPanic ?_
      refine wp_region_held_drew (S := (fun W => Keeps (fun _ => False) w W)) (by kernel_rfl) (((Keeps.refl _ _).drew)) (fun hHeld => ?_)
      refine tk 0 rfl ?_
      refine tk 1 rfl ?_
      refine tk 2 rfl ?_
      refine tk 3 rfl ?_
      refine tk 4 rfl ?_
      refine tk 5 rfl ?_
      refine tk 6 rfl ?_
      refine tk 7 rfl ?_
      refine tk 8 rfl ?_
      refine tk 9 rfl ?_
      refine tkL 10 rfl (yieldsIf_load_mid (by rfl) 50 (.tmp 14) rfl g2 o2 rfl [.int .i64 y.head, .string YN, .string YF, .string YV] _ (fun _ s => s.rangeAt hry.out id) Tryz.underlying50 rfl lineInfo) ?_
      refine tk 11 rfl ?_
      refine tk 12 rfl ?_
      refine tkL 13 rfl (yieldsIf_load_mid (by rfl) 50 (.tmp 17) rfl g o rfl [.int .i64 x.head, .string XN, .string XF, .string XV] _ (fun _ s => s.rangeAt hrx.out id) Tryz.underlying50 rfl lineInfo) ?_
      refine stepL 14 rfl (by kernel_rfl) (fun K hK => ?_)
      go_simp
      (refine (less_any y.head x.head YN YF YV XN XF XV zl _ hzl').mono ?_; rintro e w4 ⟨rfl, hk4⟩)
      go_wp2_with fail
      refine hK.out _ _ (hHeld.trans hk4) (fun hHeld => ?_)
      clear hK K
      try simp only [Act.put, sA, sZ, sS]
      refine tk 15 rfl ?_
      refine tk 16 rfl ?_
      refine tk 17 rfl ?_
      refine tk 18 rfl ?_
      refine wpAnyH_done (by kernel_rfl) (NoPanic.normal ?_) _
      have hk := Lib.hid hHeld
      clear hHeld
      go_wp2_with fail
      go_ret
      exact ⟨by rw [hzz.out]; rfl, hk.out⟩
end Go.Proofs.YtdannodhlaaoiaaGreatDoor
/- The document's Text of any right configuration, walked (gen_cgs.py). -/
set_option linter.unusedVariables false
set_option linter.unusedSimpArgs false
namespace Go.Proofs.YtdannodhlaaoiaaGreatDoor
open Go.RowKit

end Go.Proofs.YtdannodhlaaoiaaGreatDoor
/- A configuration as bytes, and back: plain. -/
set_option linter.unusedVariables false
set_option linter.unusedSimpArgs false
namespace Go.Proofs.YtdannodhlaaoiaaGreatDoor
open Go.RowKit

def txtB (s : List UInt8) : List UInt8 := UInt8.ofNat s.length :: s
def putLine (q : LineD) : List UInt8 := UInt8.ofNat q.head.toNat :: (txtB q.name ++ txtB q.leaf ++ txtB q.value)
def putAll (ls : List LineD) : List UInt8 := ls.flatMap putLine
def getT : List UInt8 → Option (List UInt8 × List UInt8)
  | [] => none
  | n :: r => if r.length < n.toNat then none else some (r.take n.toNat, r.drop n.toNat)
def getLn (h : UInt8) (b : List UInt8) : Option (LineD × List UInt8) :=
  match getT b with
  | none => none
  | some (n, b1) => match getT b1 with
    | none => none
    | some (l, b2) => match getT b2 with
      | none => none
      | some (v, b3) => some (⟨h.toNat, n, l, v⟩, b3)
def getF : Nat → List UInt8 → Option (List LineD)
  | _, [] => some []
  | 0, _ :: _ => none
  | f + 1, h :: r => match getLn h r with
    | none => none
    | some (q, r') => (getF f r').map (q :: ·)
def getAll (b : List UInt8) : Option (List LineD) := getF b.length b
def ansC (b : List UInt8) : List LineD × Nat := match getAll b with
  | none => ([], 4)
  | some ls => if rightC ls = true then (ls, 0) else ([], 3)

theorem getT_len {b s r : List UInt8} (h : getT b = some (s, r)) : s.length + r.length + 1 = b.length ∧ s.length ≤ 255 := by
  cases b with
  | nil => cases h
  | cons n t =>
    unfold getT at h
    by_cases hn : t.length < n.toNat
    · simp only [if_pos hn] at h; cases h
    · simp only [if_neg hn] at h
      injection h with h
      injection h with h1 h2
      subst h1; subst h2
      have := n.toNat_lt
      simp only [List.length_take, List.length_drop, List.length_cons]
      omega
theorem getLn_len {h : UInt8} {b r : List UInt8} {q : LineD} (e : getLn h b = some (q, r)) : r.length + 3 ≤ b.length ∧ q.name.length ≤ 255 ∧ q.leaf.length ≤ 255 ∧ q.value.length ≤ 255 := by
  unfold getLn at e
  split at e
  · cases e
  · rename_i n b1 h1
    split at e
    · cases e
    · rename_i l b2 h2
      split at e
      · cases e
      · rename_i v b3 h3
        simp only [Option.some.injEq, Prod.mk.injEq] at e
        obtain ⟨rfl, rfl⟩ := e
        have a1 := getT_len h1
        have a2 := getT_len h2
        have a3 := getT_len h3
        refine ⟨by omega, a1.2, a2.2, a3.2⟩
theorem getF_fuel : ∀ (f g : Nat) (b : List UInt8), b.length ≤ f → b.length ≤ g → getF f b = getF g b := by
  intro f
  induction f with
  | zero =>
    intro g b h1 h2
    cases b with
    | nil => cases g <;> rfl
    | cons => simp at h1
  | succ f ih =>
    intro g b h1 h2
    cases b with
    | nil => cases g <;> rfl
    | cons h r =>
      cases g with
      | zero => simp at h2
      | succ g =>
        simp only [getF]
        cases hg : getLn h r with
        | none => rfl
        | some qr =>
          obtain ⟨q, r'⟩ := qr
          have := (getLn_len hg).1
          simp only [List.length_cons] at h1 h2
          simp only []
          rw [ih g r' (by omega) (by omega)]
theorem getAll_nil : getAll [] = some [] := rfl
theorem getAll_none {h : UInt8} {r : List UInt8} (e : getLn h r = none) : getAll (h :: r) = none := by
  unfold getAll; simp only [List.length_cons, getF, e]
theorem getAll_some {h : UInt8} {r r' : List UInt8} {q : LineD} (e : getLn h r = some (q, r')) : getAll (h :: r) = (getAll r').map (q :: ·) := by
  unfold getAll; simp only [List.length_cons, getF, e]
  have := (getLn_len e).1
  rw [getF_fuel r.length r'.length r' (by omega) (Nat.le_refl _)]
theorem getT_txt {s r : List UInt8} (h : s.length ≤ 255) : getT (txtB s ++ r) = some (s, r) := by
  have e : (UInt8.ofNat s.length).toNat = s.length := by simp; omega
  unfold txtB getT
  simp only [List.cons_append, e]
  rw [if_neg (by simp)]
  simp
theorem getLn_put {q : LineD} {r : List UInt8} (hh : 0 ≤ q.head ∧ q.head ≤ 255) (h1 : q.name.length ≤ 255) (h2 : q.leaf.length ≤ 255) (h3 : q.value.length ≤ 255) : getLn (UInt8.ofNat q.head.toNat) (txtB q.name ++ txtB q.leaf ++ txtB q.value ++ r) = some (q, r) := by
  have e : (((UInt8.ofNat q.head.toNat).toNat : Nat) : Int) = q.head := by simp; omega
  unfold getLn
  rw [List.append_assoc, List.append_assoc, getT_txt h1]
  simp only []
  rw [getT_txt h2]
  simp only []
  rw [getT_txt h3]
  simp only [e]
theorem getAll_put : ∀ {ls : List LineD}, (∀ q ∈ ls, (0 ≤ q.head ∧ q.head ≤ 255) ∧ q.name.length ≤ 255 ∧ q.leaf.length ≤ 255 ∧ q.value.length ≤ 255) → getAll (putAll ls) = some ls := by
  intro ls
  induction ls with
  | nil => intro _; rfl
  | cons q ls ih =>
    intro h
    obtain ⟨h0, h1, h2, h3⟩ := h q (List.mem_cons_self ..)
    have e : putAll (q :: ls) = UInt8.ofNat q.head.toNat :: (txtB q.name ++ txtB q.leaf ++ txtB q.value ++ putAll ls) := by
      unfold putAll putLine; simp
    rw [e, getAll_some (getLn_put h0 h1 h2 h3), ih (fun r hr => h r (List.mem_cons_of_mem _ hr))]
    rfl
theorem right_small {ls : List LineD} (hr : rightC ls = true) : ∀ q ∈ ls, (0 ≤ q.head ∧ q.head ≤ 255) ∧ q.name.length ≤ 255 ∧ q.leaf.length ≤ 255 ∧ q.value.length ≤ 255 := fun q hq => by
  have h1 := line_small (right_line hr q hq)
  have h2 := line_head (right_line hr q hq)
  refine ⟨?_, by omega, by omega, by omega⟩
  rcases h2 with h | h | h <;> rw [h] <;> decide
theorem ans_put {ls : List LineD} (hr : rightC ls = true) : ansC (putAll ls) = (ls, 0) := by
  unfold ansC; rw [getAll_put (right_small hr)]; simp only []; rw [if_pos hr]
theorem putLine_len {q : LineD} (h : q.name.length ≤ 100 ∧ q.leaf.length ≤ 100 ∧ q.value.length ≤ 100) : (putLine q).length ≤ 304 := by
  unfold putLine txtB; simp; omega
theorem putAll_snoc (ls : List LineD) (q : LineD) : putAll (ls ++ [q]) = putAll ls ++ putLine q := by unfold putAll; simp
theorem putAll_len {ls : List LineD} (hs : ∀ q ∈ ls, q.name.length ≤ 100 ∧ q.leaf.length ≤ 100 ∧ q.value.length ≤ 100) : (putAll ls).length ≤ 304 * ls.length := by
  induction ls with
  | nil => simp [putAll]
  | cons q ls ih =>
    have e : putAll (q :: ls) = putLine q ++ putAll ls := by unfold putAll; simp
    rw [e, List.length_append, List.length_cons]
    have h1 := putLine_len (hs q (List.mem_cons_self ..))
    have h2 := ih (fun r hr => hs r (List.mem_cons_of_mem _ hr))
    omega
/-- what is told when the first lines are these, and the rest is this -/
theorem ans_right {b : List UInt8} : rightC (ansC b).1 = true := by
  unfold ansC
  split
  · decide +kernel
  · split
    · assumption
    · decide +kernel
end Go.Proofs.YtdannodhlaaoiaaGreatDoor
/- WaystoneTexts, plain: what is set by the words of a line; what changes from nothing; a line's bulk. -/
set_option linter.unusedVariables false
set_option linter.unusedSimpArgs false
namespace Go.Proofs.YtdannodhlaaoiaaGreatDoor
open Go.RowKit

/-- the command that sets a line -/
def cmdL (q : LineD) : CmdD := ⟨1, q.head, q.name, q.leaf, q.value, 0⟩
theorem isWord_ne {s : List UInt8} (h : isWordB s = true) : s ≠ [] := fun e => by rw [e] at h; revert h; decide
theorem word_len {s : List UInt8} (h : isWordB s = true) : s.length ≤ 31 := by
  unfold isWordB at h
  rw [Bool.and_eq_true, decide_eq_true_eq] at h
  exact h.1.2
theorem value_word {q : LineD} (h : lineB q = true) : q.value ≠ [] := isWord_ne (line_words h).2.1
theorem spaced_cons15 (w : List UInt8) (ws : List (List UInt8)) : spaced (w :: ws) = 32 :: w ++ spaced ws := by simp [spaced]
theorem lx_last {t s : List UInt8} {ws : List (List UInt8)} (h : Lx t ws) (hs : isWordB s = true) : lexL (t ++ s) = .ok (ws ++ [s]) := by
  rw [h s, (lexL_one.2 hs).1]; rfl
theorem setW_word : isWordB [115, 101, 116] = true := by decide
theorem read_set {q : LineD} (h : lineB q = true) : readD (textC (cmdL q)) = some (cmdL q) := by
  obtain ⟨w1, w2, w3⟩ := line_words h
  obtain ⟨r1, r2⟩ := line_right h
  have hf : (findD q.head q.leaf).isSome = true := by
    unfold rightV at r2
    cases e : findD q.head q.leaf with
    | none => rw [e] at r2; cases r2
    | some r => rfl
  have hne := isWord_ne w1
  obtain ⟨hd, nm, lf, vl⟩ := q
  simp only at w1 w2 w3 r1 r2 hf hne
  by_cases h0 : hd = 0
  · subst h0
    obtain ⟨h1, h2⟩ := leaf_top h rfl
    simp only at h1 h2
    subst h1
    have et : textC (cmdL ⟨0, [], lf, vl⟩) = ([115, 101, 116] ++ [32]) ++ (lf ++ [32]) ++ vl := by
      unfold textC restC cmdL
      simp only [if_pos (Or.inl rfl : (1 : Int) = 1 ∨ (1 : Int) = 2), ne_eq, not_true_eq_false, if_false, hne, not_false_eq_true, if_true, List.nil_append, List.singleton_append, spaced_cons15]
      simp [spaced, verbW, verbsL]
    have hl := lx_last ((Lx.word setW_word).app (Lx.word w1)) w2
    rw [← et] at hl
    unfold readD
    rw [hl]
    show cmdD [115, 101, 116] [lf, vl] = _
    unfold cmdD
    rw [if_neg (by decide), if_pos (by decide)]
    unfold settingD
    show (match pathD [lf] with | some (h, n, l) => if rightV h l vl then some (⟨1, h, n, l, vl, 0⟩ : CmdD) else none | none => none) = _
    rw [show pathD [lf] = some (0, [], lf) from if_pos hf]
    simp only [r2, if_true]
    rfl
  · have w3 := w3 h0
    have h12 : hd = 1 ∨ hd = 2 := by
      unfold namedB at r1
      rw [if_neg h0] at r1
      split at r1
      · left; assumption
      · split at r1
        · right; assumption
        · cases r1
    have hW : isWordB (headW hd) = true ∧ Go.Proofs.YtdannodhlaaoiaaGreatDoor.headD (headW hd) = hd := by rcases h12 with rfl | rfl <;> decide
    have et : textC (cmdL ⟨hd, nm, lf, vl⟩) = ([115, 101, 116] ++ [32]) ++ (headW hd ++ [32]) ++ (nm ++ [32]) ++ (lf ++ [32]) ++ vl := by
      unfold textC restC cmdL
      simp only [if_pos (Or.inl rfl : (1 : Int) = 1 ∨ (1 : Int) = 2), ne_eq, h0, hne, not_false_eq_true, if_true, List.nil_append, List.singleton_append, List.cons_append, spaced_cons15]
      simp [spaced, verbW, verbsL]
    have hl := lx_last ((((Lx.word setW_word).app (Lx.word hW.1)).app (Lx.word w3)).app (Lx.word w1)) w2
    rw [← et] at hl
    unfold readD
    rw [hl]
    show cmdD [115, 101, 116] [headW hd, nm, lf, vl] = _
    unfold cmdD
    rw [if_neg (by decide), if_pos (by decide)]
    unfold settingD
    show (match pathD [headW hd, nm, lf] with | some (h, n, l) => if rightV h l vl then some (⟨1, h, n, l, vl, 0⟩ : CmdD) else none | none => none) = _
    have hp : pathD [headW hd, nm, lf] = some (hd, nm, lf) := by
      show (if Go.Proofs.YtdannodhlaaoiaaGreatDoor.headD (headW hd) ≠ 0 ∧ namedB (Go.Proofs.YtdannodhlaaoiaaGreatDoor.headD (headW hd)) nm = true then (if (findD (Go.Proofs.YtdannodhlaaoiaaGreatDoor.headD (headW hd)) lf).isSome then some (Go.Proofs.YtdannodhlaaoiaaGreatDoor.headD (headW hd), nm, lf) else none) else none) = _
      rw [hW.2, if_pos ⟨h0, r1⟩, if_pos hf]
    rw [hp]
    simp only [r2, if_true]
    rfl
theorem text_cmd_len {q : LineD} (h : lineB q = true) : (textC (cmdL q)).length ≤ 200 := by
  have h1 := line_small h
  have h2 : (verbW 1).length = 3 := by decide
  have h3 : ∀ h : Int, (headW h).length ≤ 9 := fun h => by
    unfold headW
    split
    · decide
    · split <;> decide
  obtain ⟨w1, w2, w3⟩ := line_words h
  have a1 := word_len w1
  have a2 := word_len w2
  have a3 : q.name.length ≤ 31 := by
    by_cases h0 : q.head = 0
    · rw [(leaf_top h h0).1]; simp
    · exact word_len (w3 h0)
  have a4 := h3 q.head
  have hne := isWord_ne w1
  by_cases h0 : q.head = 0
  · simp [textC, restC, cmdL, h0, hne, spaced, h2]; omega
  · simp [textC, restC, cmdL, h0, hne, spaced, h2]; omega
/-- what changes from nothing -/
def chL (q : LineD) : ChD := ⟨⟨q.head, q.name, q.leaf, []⟩, [], q.value⟩
theorem merge_nil : ∀ (n : Nat) (L : List LineD), L.length ≤ n → (∀ q ∈ L, q.value ≠ []) → mergeC n [] L = L.map chL
  | 0, [], _, _ => rfl
  | 0, _ :: _, h, _ => by simp at h
  | n + 1, [], _, _ => by unfold mergeC; rw [if_pos ⟨rfl, rfl⟩]; rfl
  | n + 1, q :: L, h, hv => by
    unfold mergeC
    rw [if_neg (by simp)]
    have e1 : aheadB (q :: L) [] = true := rfl
    have e2 : aheadB [] (q :: L) = false := rfl
    have e3 : stepCh [] (q :: L) = [chL q] := by
      unfold stepCh oneCh
      rw [e1, e2]
      simp only [if_true, Bool.false_eq_true, if_false, List.headD_cons]
      rw [if_neg (fun e => hv q List.mem_cons_self e.symm)]
      rfl
    have e4 : nextL [] (q :: L) = [] := by unfold nextL; rw [e2]; rfl
    have e5 : nextL (q :: L) [] = L := by unfold nextL; rw [e1]; rfl
    rw [e3, e4, e5, merge_nil n L (by simp at h; omega) (fun x hx => hv x (List.mem_cons_of_mem _ hx))]
    rfl
theorem put_short {L : List LineD} (h : ∀ q ∈ L, lineB q = true) : (putAll L).length ≤ 97 * L.length := by
  induction L with
  | nil => simp [putAll]
  | cons q L ih =>
    have h1 := ih (fun x hx => h x (List.mem_cons_of_mem _ hx))
    obtain ⟨w1, w2, w3⟩ := line_words (h q List.mem_cons_self)
    have a1 := word_len w1
    have a2 := word_len w2
    have a3 : q.name.length ≤ 31 := by
      by_cases h0 : q.head = 0
      · rw [(leaf_top (h q List.mem_cons_self) h0).1]; simp
      · exact word_len (w3 h0)
    have e : putAll (q :: L) = putLine q ++ putAll L := by unfold putAll; simp
    have e2 : (putLine q).length = 1 + ((1 + q.name.length) + (1 + q.leaf.length) + (1 + q.value.length)) := by unfold putLine txtB; simp; omega
    rw [e, List.length_append, e2, List.length_cons]
    omega
theorem set_end {x : LineD} : ∀ {P : List LineD}, (∀ q ∈ P, lessB q x = true) → setC x P = P ++ [x]
  | [], _ => rfl
  | q :: P, h => by rw [setC_ahead (h q List.mem_cons_self), set_end (fun y hy => h y (List.mem_cons_of_mem _ hy))]; rfl
theorem rises_ahead {q : LineD} : ∀ {P : List LineD} {k : Nat}, rises P → P[k]? = some q → ∀ y ∈ P.take k, lessB y q = true
  | [], k, _, h, _, _ => by simp at h
  | a :: P, 0, _, _, y, hy => by simp at hy
  | a :: P, k + 1, hr, h, y, hy => by
    rw [List.take_succ_cons] at hy
    rw [List.getElem?_cons_succ] at h
    rcases List.mem_cons.1 hy with e | e
    · subst e
      exact rises_head hr q (List.mem_of_getElem? h)
    · exact rises_ahead (rises_tail hr) h y e
theorem rises_take15 : ∀ {P : List LineD} (k : Nat), rises P → rises (P.take k)
  | [], k, _ => by simp [rises]
  | a :: P, 0, _ => by simp [rises]
  | a :: P, k + 1, hr => by
    rw [List.take_succ_cons]
    exact rises_cons (fun b hb => rises_head hr b (List.mem_of_mem_take hb)) (rises_take15 k (rises_tail hr))
theorem set_take {L : List LineD} {k : Nat} {q : LineD} (h : rightC L = true) (hq : L[k]? = some q) : setC q (L.take k) = L.take (k + 1) := by
  rw [set_end (rises_ahead (right_rises h) hq), List.take_add_one, hq]; rfl
theorem take_right {L : List LineD} (h : rightC L = true) (k : Nat) : rightC (L.take k) = true :=
  right_of (fun l hl => right_line h l (List.mem_of_mem_take hl)) (rises_take15 k (right_rises h)) (by have := right_len h; rw [List.length_take]; omega)
end Go.Proofs.YtdannodhlaaoiaaGreatDoor
namespace Go.Proofs.YtdannodhlaaoiaaGreatDoor
open Go.RowKit

/-! cells of a disk: b: the struct's block, bs: the sectors' -/
theorem size_any (b n : Nat) (p : Option Addr) (w : World) (hc : w.cell? ⟨b, 0, none⟩ = some (.slice p n n)) :
    Calls Tryz.prog 31 #[.pointer (some ⟨b, 0, none⟩)] w fun e w' => e = .returned (.int .i64 n) ∧ w = w' := by
  go_enter Tryz.func31, Tryz.ntmps31
  go_wp2
  go_ret
  exact ⟨rfl, rfl⟩

theorem size_nil (w : World) : Calls Tryz.prog 31 #[.pointer none] w fun e w' => e = .returned (.int .i64 0) ∧ w = w' := by
  go_enter Tryz.func31, Tryz.ntmps31
  go_wp2
  go_ret
  exact ⟨rfl, rfl⟩





theorem fails_now (b : Nat) (o : Value) (w : World) (hc : w.cell? ⟨b, 3, none⟩ = some (.int .i64 0)) (hc2 : w.cell? ⟨b, 2, none⟩ = some o) (hf : w.frozen? ⟨b, 2, none⟩ = false) :
    Calls Tryz.prog 79 #[.pointer (some ⟨b, 0, none⟩)] w fun e w' => e = .returned (.bool true) ∧ w.setCell ⟨b, 2, none⟩ (.bool false) = w' := by
  go_enter Tryz.func79, Tryz.ntmps79
  go_wp2
  go_ret
  exact ⟨rfl, rfl⟩

theorem fails_later (b : Nat) (l : Int) (w : World) (hl : 0 < l) (hl2 : l ≤ 9223372036854775807) (hc : w.cell? ⟨b, 3, none⟩ = some (.int .i64 l)) (hf : w.frozen? ⟨b, 3, none⟩ = false) :
    Calls Tryz.prog 79 #[.pointer (some ⟨b, 0, none⟩)] w fun e w' => e = .returned (.bool false) ∧ w.setCell ⟨b, 3, none⟩ (.int .i64 (l - 1)) = w' := by
  have h0 : (l == 0) = false := by simp; omega
  go_enter Tryz.func79, Tryz.ntmps79
  go_wp2
  go_ret
  exact ⟨rfl, rfl⟩

theorem fails_never (b : Nat) (l : Int) (w : World) (hl : l < 0) (hc : w.cell? ⟨b, 3, none⟩ = some (.int .i64 l)) :
    Calls Tryz.prog 79 #[.pointer (some ⟨b, 0, none⟩)] w fun e w' => e = .returned (.bool false) ∧ w = w' := by
  have h0 : (l == 0) = false := by simp; omega
  go_enter Tryz.func79, Tryz.ntmps79
  go_wp2
  go_ret
  exact ⟨rfl, rfl⟩

theorem has_any (b n : Nat) (p : Option Addr) (i : Int) (w : World) (hc : w.cell? ⟨b, 0, none⟩ = some (.slice p n n)) :
    Calls Tryz.prog 78 #[.pointer (some ⟨b, 0, none⟩), .int .i64 i] w fun e w' => e = .returned (.bool (decide (0 ≤ i ∧ i < n))) ∧ w = w' := by
  by_cases h : 0 ≤ i
  · by_cases h2 : i < n
    all_goals
      go_enter Tryz.func78, Tryz.ntmps78
      go_wp2
      go_ret
      simp [h, h2]
  · go_enter Tryz.func78, Tryz.ntmps78
    go_wp2
    go_ret
    exact ⟨by simp; omega, rfl⟩


end Go.Proofs.YtdannodhlaaoiaaGreatDoor
