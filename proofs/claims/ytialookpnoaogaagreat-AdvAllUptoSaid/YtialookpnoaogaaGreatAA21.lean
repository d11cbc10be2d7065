/- Of adv: networks. -/
import Derived.Test.YtialookpnoaogaaGreatAA12
import Derived.Test.YtialookpnoaogaaGreatAA18
import Derived.Test.YtialookpnoaogaaGreatAA20
import Derived.Shelf.SlGeneric
import Derived.Shelf.SlSortCmp.NoneTotal
import Derived.Ground.SlsfProg
import Derived.Test.YtialookpnoaogaaGreatProg
import Derived.Sort.Grow
import Derived.Shelf.SlSortCmp.WholeK
import Derived.Sort.Statements
set_option linter.unusedVariables false
set_option linter.unusedSimpArgs false
set_option linter.unusedVariables false
set_option linter.unusedSimpArgs false
namespace Go.Proofs.YtialookpnoaogaaGreat
open Go.RowKit

/-- a number into a rising row, once -/
def insN : List Nat → Nat → List Nat
  | [], n => [n]
  | a :: l, n => if n < a then n :: a :: l else if n = a then a :: l else a :: insN l n
theorem insN_mem (l : List Nat) (n z : Nat) : z ∈ insN l n ↔ z = n ∨ z ∈ l := by
  induction l with
  | nil => simp [insN]
  | cons a l ih =>
    unfold insN
    by_cases h1 : n < a
    · rw [if_pos h1]; simp
    · rw [if_neg h1]
      by_cases h2 : n = a
      · rw [if_pos h2, h2]; simp
      · rw [if_neg h2, List.mem_cons, ih, List.mem_cons]
        constructor
        · rintro (h | h | h)
          · exact .inr (.inl h)
          · exact .inl h
          · exact .inr (.inr h)
        · rintro (h | h | h)
          · exact .inr (.inl h)
          · exact .inl h
          · exact .inr (.inr h)
theorem insN_rise {l : List Nat} (h : l.Pairwise (· < ·)) (n : Nat) : (insN l n).Pairwise (· < ·) := by
  induction l with
  | nil => simp [insN]
  | cons a l ih =>
    rw [List.pairwise_cons] at h
    unfold insN
    by_cases h1 : n < a
    · rw [if_pos h1, List.pairwise_cons, List.pairwise_cons]
      refine ⟨fun z hz => ?_, h⟩
      rcases List.mem_cons.1 hz with e | e
      · omega
      · have := h.1 z e; omega
    · rw [if_neg h1]
      by_cases h2 : n = a
      · rw [if_pos h2, List.pairwise_cons]; exact h
      · rw [if_neg h2, List.pairwise_cons]
        refine ⟨fun z hz => ?_, ih h.2⟩
        rcases (insN_mem l n z).1 hz with e | e
        · omega
        · exact h.1 z e
theorem rise_ext : ∀ {a b : List Nat}, a.Pairwise (· < ·) → b.Pairwise (· < ·) → (∀ z, z ∈ a ↔ z ∈ b) → a = b
  | [], [], _, _, _ => rfl
  | [], y :: b, _, _, h => by have := (h y).2 List.mem_cons_self; cases this
  | x :: a, [], _, _, h => by have := (h x).1 List.mem_cons_self; cases this
  | x :: a, y :: b, ha, hb, h => by
    rw [List.pairwise_cons] at ha hb
    have hxy : x = y := by
      rcases List.mem_cons.1 ((h x).1 List.mem_cons_self) with e | e
      · exact e
      · rcases List.mem_cons.1 ((h y).2 List.mem_cons_self) with e2 | e2
        · exact e2.symm
        · have := hb.1 x e; have := ha.1 y e2; omega
    subst hxy
    rw [rise_ext ha.2 hb.2 (fun z => ⟨fun hz => ?_, fun hz => ?_⟩)]
    · rcases List.mem_cons.1 ((h z).1 (List.mem_cons_of_mem _ hz)) with e | e
      · subst e; have := ha.1 z hz; omega
      · exact e
    · rcases List.mem_cons.1 ((h z).2 (List.mem_cons_of_mem _ hz)) with e | e
      · subst e; have := hb.1 z hz; omega
      · exact e
/-- the numbers of a network: ours, and those that are Full -/
def netIds (me : Nat) (ps : List PeerD) : List Nat := ps.foldl (fun l p => insN l p.id) [me]
theorem netIds_fold (ps : List PeerD) : ∀ (l : List Nat), l.Pairwise (· < ·) → (ps.foldl (fun l p => insN l p.id) l).Pairwise (· < ·) ∧ ∀ z, z ∈ ps.foldl (fun l p => insN l p.id) l ↔ z ∈ l ∨ z ∈ ps.map (·.id) := by
  induction ps with
  | nil => intro l h; exact ⟨h, fun z => by simp⟩
  | cons p ps ih =>
    intro l h
    obtain ⟨h1, h2⟩ := ih (insN l p.id) (insN_rise h _)
    refine ⟨h1, fun z => ?_⟩
    rw [List.foldl_cons, h2 z, insN_mem, List.map_cons, List.mem_cons]
    constructor
    · rintro ((h | h) | h)
      · exact .inr (.inl h)
      · exact .inl h
      · exact .inr (.inr h)
    · rintro (h | h | h)
      · exact .inl (.inr h)
      · exact .inl (.inl h)
      · exact .inr h
theorem netIds_of {me : Nat} {ps : List PeerD} {M : List Nat} (h1 : Rise15 M M.length) (h2 : ∀ z, z ∈ M ↔ z ∈ me :: ps.map (·.id)) : M = netIds me ps := by
  obtain ⟨a, b⟩ := netIds_fold ps [me] (by simp)
  refine rise_ext ?_ a (fun z => ?_)
  · rw [List.pairwise_iff_getElem]
    intro i j hi hj hij
    exact h1 i j _ _ hij hj (List.getElem?_eq_getElem hi) (List.getElem?_eq_getElem hj)
  · rw [h2 z]
    show _ ↔ z ∈ ps.foldl (fun l p => insN l p.id) [me]
    rw [b z]; simp
/-- the Network Lsa of a stand -/
structure NetOk (me : Nat) (pf : StandR → List PeerD) (w0 W : World) (e : OwnE) (x : StandR) : Prop where
  area : e.area = x.s.area
  type : e.type = 2
  id : e.id = x.s.addr
  own_ : e.me = me
  p5 : e.p5 = none
  n5 : e.n5 = 0
  c5 : e.c5 = 0
  mask : e.mask = x.s.mask
  n7 : e.n7 = (netIds me (pf x)).length
  own : OwnN w0 W (.slice e.p7 e.n7 e.c7) (netIds me (pf x))
theorem NetOk.keep {me : Nat} {pf : StandR → List PeerD} {w0 W W' : World} {e : OwnE} {x : StandR} {F : Nat → Prop} (h : NetOk me pf w0 W e x) (k : Keeps F W W') (hF : ∀ i, F i → ∃ cur r, W.heap[i]? = some (.cells cur 77 r)) : NetOk me pf w0 W' e x :=
  ⟨h.area, h.type, h.id, h.own_, h.p5, h.n5, h.c5, h.mask, h.n7, h.own.keep k (fun i e1 e2 => by
    obtain ⟨c1, h1⟩ := h.own.type_ i e1
    obtain ⟨c2, r2, h2⟩ := hF i e2
    rw [h1] at h2
    injection h2 with h2
    injection h2 with _ h2 _
    revert h2; decide)⟩
theorem own_ptr {w0 w : World} {p : Option Addr} {n c : Nat} {M : List Nat} (h : OwnN w0 w (.slice p n c) M) (h1 : 1 ≤ M.length) : ∃ g, p = some ⟨g, 0, none⟩ ∧ n = M.length := by
  rcases h.1.2 with ⟨e, h2⟩ | ⟨g, cap, cur, he, _⟩
  · rw [h2] at h1; simp at h1
  · injection he with e1 e2 e3
    exact ⟨g, e1, e2⟩
/-- one number behind numbers of the call's own -/
theorem wpList_append_one {P : Program} {w : World} {ops : Array Oper} {rest : List Oper} {o : Oper} {a : Act} {Q : Exit → Act → World → Prop} (hgd : o.guard = none) (s x : Operand) (t : TypeId)
    (ho : o.op = .call { callee := .builtin .append, args := #[s, x], argTypes := #[t, t] })
    (i : TypeInfo) (ht : P.underlying t = some (.slice 40)) (hi : P.info? 40 = some i) (hz : i.zero = some (.int .u32 0)) (hsize : i.size = 1) (hby : i.bytes = 4)
    (w0 : World) (v : Value) (n : Nat) (xs : List Nat) (hn : xs.length = n) (hs : a.eval s = v) (hown : OwnN w0 w v xs) (b : Nat) (hx : a.eval x = .slice (some ⟨b, 0, none⟩) 1 1) (y : Nat) (hy : BlkAt w b 40 [nv y]) (hsz : n ≤ 1000000)
    (h : ∀ p c w', Hid (OwnN w0 w' (.slice p (n + 1) c) (xs ++ [y])) → Hid (Grown w v p (n + 1) c w') → wpList P ops Q rest (a.put o.dst (.slice p (n + 1) c)) w') : wpList P ops Q (o :: rest) a w :=
  wpList_plain hgd fun _ hK => wp_append_nums s x t ho i ht hi hz hsize hby w0 v n xs hn hs hown _ hx [y] ⟨_, _, rfl, (fun e => by cases e), Nat.le_refl _, fun _ => ⟨_, _, rfl, hy.range⟩⟩ (by show n + 1 ≤ _; omega) (fun p c w' h1 h2 => hK _ _ (h p c w' (Lib.hid h1) (Lib.hid h2)))
theorem sortU32_n (g c n : Nat) (M : List Nat) (hn : M.length = n) (w0 w : World) (hO : Hid (OwnN w0 w (.slice (some ⟨g, 0, none⟩) n c) M)) (h1 : 1 ≤ n) (hl : n ≤ 9) :
    Calls Tryz.prog 60 #[.slice (some ⟨g, 0, none⟩) n c] w fun e w' => e = .returned (.tuple #[]) ∧ ∃ M', M'.length = n ∧ OwnN w0 w' (.slice (some ⟨g, 0, none⟩) n c) M' ∧ Sorted15 M' M'.length ∧ (∀ z, z ∈ M' ↔ z ∈ M) ∧ Keeps (fun i => i = g) w w' := by
  subst hn
  exact sortU32_any g c M w0 w hO h1 hl
theorem compU32_n (g c n : Nat) (M : List Nat) (hn : M.length = n) (w0 w : World) (hO : Hid (OwnN w0 w (.slice (some ⟨g, 0, none⟩) n c) M)) (h1 : 1 ≤ n) (hl : n ≤ 1000) (hs : Hid (Sorted15 M M.length)) :
    Calls Tryz.prog 61 #[.slice (some ⟨g, 0, none⟩) n c] w fun e w' => ∃ M', e = .returned (.slice (some ⟨g, 0, none⟩) M'.length c) ∧ OwnN w0 w' (.slice (some ⟨g, 0, none⟩) M'.length c) M' ∧ Rise15 M' M'.length ∧ (∀ z, z ∈ M' ↔ z ∈ M) ∧ M'.length ≤ M.length ∧ Keeps (fun i => i = g) w w' := by
  subst hn
  exact compU32_any g c M w0 w hO h1 hl hs
end Go.Proofs.YtialookpnoaogaaGreat
/- Of adv: networks, walked. -/
set_option linter.unusedVariables false
set_option linter.unusedSimpArgs false
namespace Go.Proofs.YtialookpnoaogaaGreat
open Go.RowKit

def NetPost (me : Nat) (pf : StandR → List PeerD) (xs : List StandR) (w : World) (e : Ending) (w' : World) : Prop :=
  ∃ (zs : List (OwnE × StandR)) (p : Option Addr) (c : Nat), e = .returned (.slice p zs.length c) ∧ OwnR 77 10 OwnE.vals w w' (.slice p zs.length c) (zs.map (·.1)) ∧ zs.map (·.2) = xs.filter (fun x => speaksB x.s x.dr x.n) ∧ (∀ z ∈ zs, NetOk me pf w w' z.1 z.2) ∧ Keeps (fun _ => False) w w'
theorem filt_yes {xs : List StandR} {k : Nat} {x : StandR} (hx : xs[k]? = some x) {f : StandR → Bool} (h : f x = true) : (xs.take (k + 1)).filter f = (xs.take k).filter f ++ [x] := by
  rw [List.take_add_one, hx, List.filter_append]
  simp [h]
theorem filt_no {xs : List StandR} {k : Nat} {x : StandR} (hx : xs[k]? = some x) {f : StandR → Bool} (h : f x = false) : (xs.take (k + 1)).filter f = (xs.take k).filter f := by
  rw [List.take_add_one, hx, List.filter_append]
  simp [h]
set_option maxRecDepth 100000 in
set_option maxHeartbeats 8000000 in
theorem networks_any (pf : StandR → List PeerD) (me : Nat) (v : Value) (xs : List StandR) (w : World) (hv : Hid (RowsAt 13 StandR.vals w v xs)) (hl : xs.length ≤ 64)
    (hp : Hid (∀ x ∈ xs, x.n = (pf x).length ∧ (pf x).length ≤ 8 ∧ RowsAt 2 peerVals w (.slice x.p x.n x.c) (pf x))) :
    Calls Tryz.prog 24 #[.int .u32 me, v] w (NetPost me pf xs w) := by
  obtain ⟨p, c, rfl⟩ := hv.out.slice
  obtain ⟨i0, hi0, hz0, hz1, hz2⟩ := info_parts u32InfoAll
  obtain ⟨i1, hj0, hj1, hj2, hj3⟩ := ownAll15
  go_enter Tryz.func24, Tryz.ntmps24
  go_wp2_with fail
  have hO0 : Hid (OwnR 77 10 OwnE.vals w w (.slice none 0 0) (([] : List (OwnE × StandR)).map (·.1))) := Lib.hid (OwnR.nil _ _ (Nat.le_refl _))
  go_loopw [13, 5] (fun iv tv wr => ∃ (k : Nat) (zs : List (OwnE × StandR)) (q : Option Addr) (d : Nat), k ≤ xs.length ∧ zs.length ≤ k ∧ iv = .int .i64 k ∧ tv = .slice q zs.length d ∧ Hid (OwnR 77 10 OwnE.vals w wr (.slice q zs.length d) (zs.map (·.1))) ∧ Hid (zs.map (·.2) = (xs.take k).filter (fun x => speaksB x.s x.dr x.n)) ∧ Hid (∀ z ∈ zs, NetOk me pf w wr z.1 z.2) ∧ Hid (Keeps (fun _ => False) w wr)) (fun iv _ _ => xs.length - (intOf iv).toNat)
  case atStart => exact ⟨0, [], none, 0, by omega, by simp, rfl, rfl, hO0, Lib.hid rfl, Lib.hid (fun z h => by cases h), Lib.hid (Keeps.refl _ _)⟩
  case round =>
    obtain ⟨k, zs, q, d, hk, hzk, rfl, rfl, hO, hF, hN, hkr⟩ := hrel
    by_cases hlx : k < xs.length
    · obtain ⟨x, hx⟩ : ∃ x, xs[k]? = some x := ⟨_, List.getElem?_eq_getElem hlx⟩
      have hm := List.mem_of_getElem? hx
      obtain ⟨g, o, rfl, hrow0⟩ := hv.out.open (by omega)
      have hrow := Lib.hid (hkr.out.rangeAt (hrow0 k x hx) id)
      obtain ⟨zb, hzb⟩ : ∃ z, speaksB x.s x.dr x.n = z := ⟨_, rfl⟩
      have hsx := Lib.hid (fun W => standSpeaks_any x.s x.nm x.dr x.n x.c x.p zb W (Lib.hid hzb))
      obtain ⟨hpn, hp8, hpr⟩ := hp.out x hm
      have hpr' := Lib.hid hpr
      have hx' := Lib.hid hx
      have hzb' := Lib.hid hzb
      obtain ⟨L, hL⟩ : ∃ L, x.vals = L := ⟨_, rfl⟩
      have hL2 : standVals x.s x.nm x.dr (.slice x.p x.n x.c) = L := hL
      rw [hL] at hrow
      rw [hL2] at hsx
      have hLl : L.length = 13 := by rw [← hL]; rfl
      have hcs : Hid (L[0]? = some (.int .u32 x.s.area) ∧ L[1]? = some (.int .u32 x.s.addr) ∧ L[2]? = some (.int .u32 x.s.mask) ∧ L[12]? = some (.slice x.p x.n x.c)) := Lib.hid (by rw [← hL]; exact ⟨rfl, rfl, rfl, rfl⟩)
      have hi : Hid ((Tryz.prog.info? 67).map (·.size) = some L.length) := Lib.hid (by rw [hLl]; exact standInfo)
      have hL1 : Hid (L.toArray.all (·.oneCell') = true) := Lib.hid (by
        rw [← hL]
        obtain ⟨⟨area, addr, mask, cost, hello, dead, again, prio, two, auth⟩, nm, dr, p, n, c⟩ := x
        unfold StandR.vals standVals setVals strv
        simp
        exact ⟨rfl, rfl, rfl, rfl, rfl, rfl, rfl, rfl, rfl, rfl, rfl, rfl, rfl⟩)
      have hLs : Hid ((#[.int .u32 0, .int .u32 0, .int .u32 0, .int .i64 0, .int .i64 0, .int .i64 0, .int .i64 0, .int .i64 0, .bool false, .string ⟨#[]⟩, .string ⟨#[]⟩, .int .u32 0, .slice none 0 0] : Array Value).size = L.toArray.size) := Lib.hid (by simp [hLl])
      have hLz : L.toArray.size = L.length := by simp
      have hBx := Lib.hid (BlkAt.new wr 67 L)
      have kA := (Keeps.refl (fun _ => False) wr).alloc (.cells L.toArray 67)
      have hkx := Lib.hid (hkr.out.trans kA)
      have hOx := Lib.hid (hO.out.keep kA (fun _ _ f => f))
      have hNx : Hid (∀ z ∈ zs, NetOk me pf w (wr.alloc (.cells L.toArray 67)) z.1 z.2) := Lib.hid (fun z h => (hN.out z h).keep kA (fun _ f => f.elim))
      have m1 : (0 : Int) ≤ (k : Int) := by omega
      have m2 : (k : Int) < (xs.length : Int) := by omega
      clear hL hL2 hrow0 hm hx hkr hO hN hzb kA hpr
      go_upto_region 5 with (first | ((with_reducible refine at_slot 16 ?_); refine wpList_load_mid rfl 67 (.tmp 15) rfl g (o + k * 13) rfl L _ hrow.out Tryz.underlying67 rfl hi.out ?_) | ((with_reducible refine at_store 7 ?_); refine wpList_store_new rfl 67 (.tmp 7) (.tmp 16) rfl _ L.toArray rfl rfl (by rw [hLz]; exact hi.out) hLs.out hL1.out ?_))
      obtain ⟨b, hb⟩ : ∃ b, wr.heap.size = b := ⟨_, rfl⟩
      rw [hb] at hBx ⊢
      generalize wr.alloc (.cells L.toArray 67) = W1 at hBx hkx hOx hNx ⊢
      clear hb hrow
      go_wp2_with ((with_reducible refine at_slot 17 ?_); refine wpList_load_mid rfl 67 (.tmp 7) rfl b 0 rfl L _ hBx.out.range Tryz.underlying67 rfl hi.out ?_)
      refine (hsx.out _).mono ?_
      rintro e W2 ⟨rfl, k2⟩
      have hk2 := Lib.hid (hkx.out.trans k2)
      have hO2 := Lib.hid (hOx.out.keep k2 (fun _ _ f => f))
      have hN2 : Hid (∀ z ∈ zs, NetOk me pf w W2 z.1 z.2) := Lib.hid (fun z h => (hNx.out z h).keep k2 (fun _ f => f.elim))
      have hB2 := Lib.hid (hBx.out.keep k2 id)
      clear hsx hBx hkx k2 hOx hNx
      cases zb with
      | false =>
        have hF2 := Lib.hid (hF.out.trans (filt_no (f := fun x => speaksB x.s x.dr x.n) hx'.out hzb'.out).symm)
        clear hF
        go_wp2_with fail
        exact ⟨⟨k + 1, zs, q, d, by omega, by omega, by go_num, rfl, hO2, hF2, hN2, hk2⟩, by simp [intOf]; omega⟩
      | true =>
        have hF2 : Hid (∀ e : OwnE, (zs ++ [(e, x)]).map (·.2) = (xs.take (k + 1)).filter (fun x => speaksB x.s x.dr x.n)) := Lib.hid (fun e => by
          rw [filt_yes (f := fun x => speaksB x.s x.dr x.n) hx'.out hzb'.out, ← hF.out]; simp)
        clear hF
        obtain ⟨hc0, hc1, hc2, hc12⟩ := hcs.out
        obtain ⟨ps, hps⟩ : ∃ ps, pf x = ps := ⟨_, rfl⟩
        obtain ⟨pp, hpp⟩ : ∃ a, x.p = a := ⟨_, rfl⟩
        obtain ⟨cc, hcc⟩ : ∃ a, x.c = a := ⟨_, rfl⟩
        obtain ⟨ad, had⟩ : ∃ a, x.s.addr = a := ⟨_, rfl⟩
        obtain ⟨ar, har⟩ : ∃ a, x.s.area = a := ⟨_, rfl⟩
        obtain ⟨mk, hmk⟩ : ∃ a, x.s.mask = a := ⟨_, rfl⟩
        rw [hps] at hpn hp8
        have hpr2 : Hid (RowsAt 2 peerVals w (.slice pp ps.length cc) ps) := Lib.hid (by have := hpr'.out; rw [hps, hpn, hpp, hcc] at this; exact this)
        rw [hpp, hpn, hcc] at hc12
        rw [har] at hc0
        rw [had] at hc1
        rw [hmk] at hc2
        have hxe := Lib.hid (And.intro hps (And.intro har (And.intro had hmk)))
        clear hps hpp hcc hpr' had har hmk hcs hpn
        have hkM : Hid (Keeps (fun _ => False) W2 (W2.alloc (.cells (([me] : List Nat).map nv).toArray 40))) := Lib.hid ((Keeps.refl (fun _ => False) W2).alloc _)
        have hOM := Lib.hid (OwnN.new W2 W2 (Nat.le_refl _) [me] (n := 1) rfl (by unfold maxLen; omega))
        obtain ⟨WM, hWM⟩ : ∃ W, W2.alloc (.cells (([me] : List Nat).map nv).toArray 40) = W := ⟨_, rfl⟩
        have hWM' : W2.alloc (.cells #[.int .u32 me] 40) = WM := hWM
        rw [hWM] at hkM hOM
        clear hWM
        have hB3 := Lib.hid (hB2.out.keep hkM.out id)
        obtain ⟨s2, hs2'⟩ : ∃ s, W2.heap.size = s := ⟨_, rfl⟩
        have hs2 : Hid (w.heap.size ≤ s2 ∧ b < s2 ∧ (∀ i, (Value.slice q zs.length d).ownBlock = some i → i < s2)) := Lib.hid ⟨by rw [← hs2']; exact hk2.out.size, by rw [← hs2']; exact World.block_lt_of_cell? _ _ (hB2.out.cell 12 _ hc12), fun i e => by
          obtain ⟨cur, r, h⟩ := hO2.out.type_ i e
          rw [← hs2']
          exact (Array.getElem?_eq_some_iff.1 h).1⟩
        have hs2h := Lib.hid hs2'
        have hnb : Hid (¬ (Value.slice q zs.length d).ownBlock = some b) := Lib.hid (fun e => by
          obtain ⟨c1, r1, h1⟩ := hO2.out.type_ b e
          have h2 : _ = some _ := hB2.out
          rw [h1] at h2
          injection h2 with h2
          injection h2 with _ h2 _
          revert h2; decide)
        have c12 := hB3.out.cell 12 _ hc12
        go_upto_region 7 with fail
        rw [hs2'] at hOM
        clear hWM' hs2'
        go_upto_region 8 with fail
        clear c12 hB3
        go_loopw [26, 8] (fun jv av wr => ∃ (j : Nat) (A : List Nat) (qa : Option Addr) (da : Nat), j ≤ ps.length ∧ A.length = j + 1 ∧ jv = .int .i64 j ∧ av = .slice qa (j + 1) da ∧ Hid (A = me :: (ps.take j).map (·.id)) ∧ Hid (OwnN W2 wr (.slice qa (j + 1) da) A) ∧ Hid (Keeps (fun _ => False) W2 wr)) (fun jv _ _ => ps.length - (intOf jv).toNat)
        case atStart => exact ⟨0, [me], _, 1, by omega, rfl, rfl, rfl, Lib.hid rfl, hOM, hkM⟩
        case round =>
          obtain ⟨j, A, qa, da, hj, hAl, rfl, rfl, hAe, hA, hKa⟩ := hrel
          by_cases hjl : j < ps.length
          · obtain ⟨⟨yi, ya⟩, hy⟩ : ∃ y, ps[j]? = some y := ⟨_, List.getElem?_eq_getElem hjl⟩
            obtain ⟨g2, o2, rfl, hr⟩ := hpr2.out.open (by omega)
            have hr2 := Lib.hid ((hk2.out.trans hKa.out).rangeAt (hr j _ hy) id)
            have hAe2 : Hid (A ++ [yi] = me :: (ps.take (j + 1)).map (·.id)) := Lib.hid (by rw [List.take_add_one, hy, hAe.out]; simp)
            have kb := (Keeps.refl (fun _ => False) wr).alloc (.cells #[.int .u32 yi, .int .u32 ya] 85)
            have hKb := Lib.hid (hKa.out.trans kb)
            have hAb := Lib.hid (hA.out.keep kb (fun _ _ f => f))
            have p0 := (BlkAt.new wr 85 [.int .u32 yi, .int .u32 ya]).cell 0 _ rfl
            have n1 : (0 : Int) ≤ (j : Int) := by omega
            have n2 : (j : Int) < (ps.length : Int) := by omega
            clear hr hy kb hA hKa hAe
            go_upto_region 10 with (first | ((with_reducible refine at_slot 29 ?_); refine wpList_load_mid rfl 85 (.tmp 28) rfl g2 (o2 + j * 2) rfl [.int .u32 yi, .int .u32 ya] _ hr2.out Tryz.underlying85 rfl peerInfo ?_) | ((with_reducible refine at_store 10 ?_); refine wpList_store_new rfl 85 (.tmp 10) (.tmp 29) rfl _ #[.int .u32 yi, .int .u32 ya] rfl rfl peerInfo rfl (peer_one ⟨yi, ya⟩) ?_))
            obtain ⟨b5, hb5⟩ : ∃ b, wr.heap.size = b := ⟨_, rfl⟩
            rw [hb5] at p0 ⊢
            generalize wr.alloc (.cells [.int .u32 yi, .int .u32 ya].toArray 85) = W4 at hKb hAb p0 ⊢
            clear hb5 hr2
            have kc := (Keeps.refl (fun _ => False) W4).alloc (.cells #[.int .u32 yi] 40)
            have hAc := Lib.hid (hAb.out.keep kc (fun _ _ f => f))
            have hKc := Lib.hid (hKb.out.trans kc)
            have hbn := Lib.hid (BlkAt.new W4 40 [nv yi])
            clear kc hKb hAb
            go_wp2_with ((with_reducible refine at_slot 34 ?_); refine wpList_append_one rfl (.tmp 30) (.tmp 33) 73 rfl i0 Tryz.underlying73 hi0 hz0 hz1 hz2 W2 _ (j + 1) A hAl rfl hAc.out _ rfl yi hbn.out (by omega) ?_; intro q8 d8 w6 hA6 hg6)
            have hK6 := Lib.hid (hKc.out.trans' hg6.out.k (fun i e => .inr (hAc.out.2.1 i e)))
            exact ⟨⟨j + 1, A ++ [yi], q8, d8, by omega, by simp; omega, by go_num, rfl, hAe2, hA6, hK6⟩, by simp [intOf]; omega⟩
          · obtain rfl : j = ps.length := by omega
            rw [List.take_length] at hAe
            obtain ⟨g3, rfl, -⟩ := own_ptr hA.out (by omega)
            go_wp2_with fail
            refine (sortU32_n g3 da (ps.length + 1) A hAl W2 _ hA (by omega) (by omega)).mono ?_
            rintro e w5 ⟨rfl, M5, hM5, hO5, hS5, hm5, k5⟩
            have hg3 : Hid (s2 ≤ g3) := Lib.hid (by rw [← hs2h.out]; exact hA.out.2.1 g3 rfl)
            have hK5 := Lib.hid (hKa.out.trans' k5 (fun i e => .inr (by rw [e, hs2h.out]; exact hg3.out)))
            have hO5' := Lib.hid hO5
            have hS5' := Lib.hid hS5
            have hm5' := Lib.hid (fun z => (hm5 z).trans (by rw [hAe.out]))
            clear hO5 hS5 hm5 k5 hA hKa hAe
            go_upto_region 13 with fail
            have hB6 := hB2.out.keep hK5.out id
            refine wp_region_noPanic ?_
            refine wp_region_held_drew (S := (fun W => BlkAt W b 67 L)) (by kernel_rfl) ((hB6.keep ((Keeps.refl (fun _ => False) w5).drew) id)) (fun hHeld => ?_)
            have hK6 := Lib.hid hK5.out.drew
            have hO6 := Lib.hid (hO5'.out.keep ((Keeps.refl (fun _ => False) w5).drew) (fun _ _ f => f))
            clear hB6 hK5 hO5'
            generalize w5.drew = w6 at hHeld hK6 hO6 ⊢
            refine tk 0 rfl ?_
            refine tk 1 rfl ?_
            refine tk 2 rfl ?_
            refine tkL 3 rfl (yieldsIf_load_cell (by rfl) 40 (.tmp 40) rfl b 0 rfl (.int .u32 ar) (fun _ s => s.cell 0 _ hc0) (fun w s => load_u32 w _ _ _ s)) ?_
            refine tk 4 rfl ?_
            refine tk 5 rfl ?_
            refine tk 6 rfl ?_
            refine tkL 7 rfl (yieldsIf_load_cell (by rfl) 40 (.tmp 44) rfl b 1 rfl (.int .u32 ad) (fun _ s => s.cell 1 _ hc1) (fun w s => load_u32 w _ _ _ s)) ?_
            refine tk 8 rfl ?_
            refine tk 9 rfl ?_
            refine tk 10 rfl ?_
            refine tkL 11 rfl (yieldsIf_load_cell (by rfl) 40 (.tmp 48) rfl b 2 rfl (.int .u32 mk) (fun _ s => s.cell 2 _ hc2) (fun w s => load_u32 w _ _ _ s)) ?_
            refine tk 12 rfl ?_
            refine stepL 13 rfl (by kernel_rfl) (fun K hK => ?_)
            go_simp
            (refine (compU32_n g3 da (ps.length + 1) M5 hM5 W2 _ hO6 (by omega) (by omega) hS5').mono ?_; rintro e W7 ⟨M7, rfl, hO7, hR7, hm7, hl7, k7⟩)
            go_wp2_with fail
            refine hK.out _ _ ((hHeld.keep k7 (fun e => by have h1 := hg3.out; have h2 := hs2.out.2.1; omega))) (fun hHeld => ?_)
            clear hK K
            try simp only [Act.put, sA, sZ, sS]
            have hMe := Lib.hid (netIds_of (me := me) (ps := ps) hR7 (fun z => (hm7 z).trans (hm5'.out z)))
            have hK7 := Lib.hid (hK6.out.trans' k7 (fun i e => .inr (by rw [e, hs2h.out]; exact hg3.out)))
            have hO7' := Lib.hid hO7
            clear hO7 hR7 hm7 hl7 k7 hK6 hO6 hm5' hS5'
            refine tk 14 rfl ?_
            refine stepL 15 rfl (by kernel_rfl) (fun K hK => ?_)
            go_simp
            (refine (advOwn_any _ _ _ _ _ _ _ _ _ _ _ _ _ _ _ W7).mono ?_; rintro e W8 ⟨rfl, k8⟩)
            go_wp2_with fail
            refine hK.out _ _ ((hHeld.keep k8 id)) (fun hHeld => ?_)
            clear hK K
            try simp only [Act.put, sA, sZ, sS]
            have kA := k8.alloc (.cells (OwnE.mk ar 2 ad me none 0 0 mk (some ⟨g3, 0, none⟩) M7.length da).vals.toArray 77)
            have hK9 := Lib.hid (hK7.out.trans kA)
            have hO9 := Lib.hid (hO7'.out.keep kA (fun _ _ f => f))
            have hT9 : Hid (OwnR 77 10 OwnE.vals w (W8.alloc (.cells #[.int .u32 ar, .int .i64 0, .int .i64 2, .int .u32 ad, .int .u32 me, .int .i64 (-2147483647), .slice none 0 0, .int .u32 mk, .slice (some ⟨g3, 0, none⟩) M7.length da, .int .i64 0] 77)) (.slice q zs.length d) (zs.map (·.1))) := Lib.hid (hO2.out.keep hK9.out (fun _ _ f => f))
            have hN9 : Hid (∀ z ∈ zs, NetOk me pf w (W8.alloc (.cells (OwnE.mk ar 2 ad me none 0 0 mk (some ⟨g3, 0, none⟩) M7.length da).vals.toArray 77)) z.1 z.2) := Lib.hid (fun z h => (hN2.out z h).keep hK9.out (fun _ f => f.elim))
            have hk9 := Lib.hid (hk2.out.trans hK9.out)
            clear kA k8 hK7 hO7' hO2 hN2
            refine stepL 16 rfl (by kernel_rfl) (fun K hK => ?_)
            go_simp
            refine hK.out _ _ ((hHeld.keep ((Keeps.refl (fun _ => False) W8).alloc _) id)) (fun hHeld => ?_)
            clear hK K
            try simp only [Act.put, sA, sZ, sS]
            have _mark := True.intro
            refine stepL 17 rfl (by kernel_rfl) (fun K hK => ?_)
            rw [if_pos (by rfl)]
            (refine wp_append_r (.tmp 38) (.tmp 54) 25 77 rfl i1 _ 104 Tryz.underlying25 hj0 hj1 hj2 hj3 rfl (by decide) (by decide) ownE_len w (.slice q zs.length d) zs.length (zs.map (·.1)) (List.length_map ..) rfl hT9.out _ rfl ⟨ar, 2, ad, me, none, 0, 0, mk, some ⟨g3, 0, none⟩, M7.length, da⟩ (cells_new (w := W8) rfl (OwnE.mk ar 2 ad me none 0 0 mk (some ⟨g3, 0, none⟩) M7.length da).vals 77) (ownE_one _) (by omega) ?_; intro q8 d8 W10 hT10 hg10; have hg10' := Lib.hid hg10; have hT10' := Lib.hid hT10; clear hT10 hg10)
            refine hK.out _ _ ((hHeld.keep hg10'.out.k (fun e => hnb.out e))) (fun hHeld => ?_)
            clear hK K
            try simp only [Act.put, sA, sZ, sS]
            refine tk 18 rfl ?_
            refine wpAnyH_done (by kernel_rfl) (NoPanic.normal ?_) _
            obtain ⟨e, he⟩ : ∃ e : OwnE, OwnE.mk ar 2 ad me none 0 0 mk (some ⟨g3, 0, none⟩) M7.length da = e := ⟨_, rfl⟩
            have hNk : Hid (∀ z ∈ zs ++ [(e, x)], NetOk me pf w W10 z.1 z.2) := Lib.hid (fun z hz => by
              rcases List.mem_append.1 hz with h | h
              · exact (hN9.out z h).keep hg10'.out.k (fun i e => hT9.out.type_ i e)
              · rw [List.mem_singleton] at h
                subst h
                obtain ⟨x1, x2, x3, x4⟩ := hxe.out
                rw [← he]
                refine ⟨x2.symm, rfl, x3.symm, rfl, rfl, rfl, rfl, x4.symm, by rw [x1, ← hMe.out], ?_⟩
                rw [x1, ← hMe.out]
                have h1 := hO9.out.keep hg10'.out.k (fun i e1 e2 => by
                  have h3 := hO9.out.2.1 i e1
                  have h4 := hs2.out.2.2 i e2
                  rw [hs2h.out] at h3
                  omega)
                exact ⟨h1.1, fun k e => by have := h1.2.1 k e; have := hs2.out.1; rw [hs2h.out] at *; omega, by have h3 := h1.2.2; have := hs2.out.1; rw [hs2h.out] at h3; omega⟩)
            have hTk : Hid (OwnR 77 10 OwnE.vals w W10 (.slice q8 (zs.length + 1) d8) ((zs ++ [(e, x)]).map (·.1))) := Lib.hid (by rw [List.map_append, ← he]; exact hT10'.out)
            have hKk := Lib.hid (hk9.out.trans' hg10'.out.k (fun i e => .inr (hT9.out.2.1 i e)))
            have hFk := hF2.out e
            clear hHeld hN9 hT9 hO9 hK9 hk9 hg10' hT10' hMe he
            go_wp2_with fail
            exact ⟨⟨k + 1, zs ++ [(e, x)], q8, d8, by omega, by simp; omega, by go_num, by simp, by simpa using hTk, Lib.hid hFk, hNk, hKk⟩, by simp [intOf]; omega⟩
    · go_wp2_with fail
      go_ret
      obtain rfl : k = xs.length := by omega
      have hF' := hF.out
      rw [List.take_length] at hF'
      exact ⟨zs, q, d, rfl, hO.out, hF', hN.out, hkr.out⟩
end Go.Proofs.YtialookpnoaogaaGreat
/- slices.SortFunc at Lsas of ours, laid in plain words by lay-plain.mjs: its numbers made names. -/
namespace Go.Proofs.YtialookpnoaogaaGreat
open Go.Shelf
def Tryz.sortOwn15_ren : Go.Shelf.Ren := ⟨fun | 6 => 25 | 15 => 63 | 14 => 62 | 28 => 102 | 29 => 103 | 20 => 94 | 21 => 95 | 22 => 96 | 23 => 97 | 24 => 98 | 25 => 99 | 26 => 100 | 27 => 101 | 46 => 126 | 47 => 127 | 48 => 128 | 49 => 129 | 50 => 130 | 57 => 140 | n => n, fun | 22 => 25 | 24 => 77 | 25 => 78 | 3 => 3 | 39 => 132 | 0 => 0 | 53 => 40 | 55 => 178 | 4 => 4 | 46 => 171 | 45 => 170 | 50 => 122 | 5 => 5 | 9 => 9 | 66 => 197 | 70 => 201 | 76 => 210 | 77 => 211 | n => n, fun | n => n⟩
theorem Tryz.sortOwn15 : Go.Proofs.SlLaysF0.n6 Tryz.prog Tryz.sortOwn15_ren := {
  mixed := by kernel_rfl
  f6 := ⟨Tryz.f25.name, by decide, Tryz.func25.trans (congrArg some (by kernel_rfl))⟩
  f14 := ⟨Tryz.f62.name, by decide, Tryz.func62.trans (congrArg some (by kernel_rfl))⟩
  f15 := Tryz.func63.trans (congrArg some (by kernel_rfl))
  f20 := ⟨Tryz.f94.name, by decide, Tryz.func94.trans (congrArg some (by kernel_rfl))⟩
  f21 := ⟨Tryz.f95.name, by decide, Tryz.func95.trans (congrArg some (by kernel_rfl))⟩
  f22 := ⟨Tryz.f96.name, by decide, Tryz.func96.trans (congrArg some (by kernel_rfl))⟩
  f23 := ⟨Tryz.f97.name, by decide, Tryz.func97.trans (congrArg some (by kernel_rfl))⟩
  f24 := ⟨Tryz.f98.name, by decide, Tryz.func98.trans (congrArg some (by kernel_rfl))⟩
  f25 := ⟨Tryz.f99.name, by decide, Tryz.func99.trans (congrArg some (by kernel_rfl))⟩
  f26 := ⟨Tryz.f100.name, by decide, Tryz.func100.trans (congrArg some (by kernel_rfl))⟩
  f27 := ⟨Tryz.f101.name, by decide, Tryz.func101.trans (congrArg some (by kernel_rfl))⟩
  f28 := Tryz.func102.trans (congrArg some (by kernel_rfl))
  f29 := Tryz.func103.trans (congrArg some (by kernel_rfl))
  f46 := ⟨Tryz.f126.name, by decide, Tryz.func126.trans (congrArg some (by kernel_rfl))⟩
  f47 := Tryz.func127.trans (congrArg some (by kernel_rfl))
  f48 := Tryz.func128.trans (congrArg some (by kernel_rfl))
  f49 := ⟨Tryz.f129.name, by decide, Tryz.func129.trans (congrArg some (by kernel_rfl))⟩
  f50 := ⟨Tryz.f130.name, by decide, Tryz.func130.trans (congrArg some (by kernel_rfl))⟩
  f57 := ⟨Tryz.f140.name, by decide, Tryz.func140.trans (congrArg some (by kernel_rfl))⟩
  t0 := Tryz.underlying0
  a0 := Tryz.isAgg0
  z0 := Tryz.sizeOf0
  v0 := Tryz.zeroValue0
  t3 := Tryz.underlying3
  a3 := Tryz.isAgg3
  z3 := Tryz.sizeOf3
  v3 := Tryz.zeroValue3
  t4 := Tryz.underlying4
  a4 := Tryz.isAgg4
  z4 := Tryz.sizeOf4
  v4 := Tryz.zeroValue4
  t5 := Tryz.underlying5
  a5 := Tryz.isAgg5
  z5 := Tryz.sizeOf5
  v5 := Tryz.zeroValue5
  t9 := Tryz.underlying9
  a9 := Tryz.isAgg9
  z9 := Tryz.sizeOf9
  v9 := Tryz.zeroValue9
  t22 := Tryz.underlying25
  a22 := Tryz.isAgg25
  z22 := Tryz.sizeOf25
  v22 := Tryz.zeroValue25
  t25 := Tryz.underlying78
  a25 := Tryz.isAgg78
  z25 := Tryz.sizeOf78
  v25 := Tryz.zeroValue78
  t39 := Tryz.underlying132
  a39 := Tryz.isAgg132
  z39 := Tryz.sizeOf132
  v39 := Tryz.zeroValue132
  t45 := Tryz.underlying170
  a45 := Tryz.isAgg170
  z45 := Tryz.sizeOf170
  v45 := Tryz.zeroValue170
  t46 := Tryz.underlying171
  a46 := Tryz.isAgg171
  z46 := Tryz.sizeOf171
  v46 := Tryz.zeroValue171
  t50 := Tryz.underlying122
  a50 := Tryz.isAgg122
  z50 := Tryz.sizeOf122
  v50 := Tryz.zeroValue122
  t53 := Tryz.underlying40
  a53 := Tryz.isAgg40
  z53 := Tryz.sizeOf40
  v53 := Tryz.zeroValue40
  t55 := Tryz.underlying178
  a55 := Tryz.isAgg178
  z55 := Tryz.sizeOf178
  v55 := Tryz.zeroValue178
  t66 := Tryz.underlying197
  a66 := Tryz.isAgg197
  z66 := Tryz.sizeOf197
  v66 := Tryz.zeroValue197
  t70 := Tryz.underlying201
  a70 := Tryz.isAgg201
  z70 := Tryz.sizeOf201
  v70 := Tryz.zeroValue201
  t76 := Tryz.underlying210
  a76 := Tryz.isAgg210
  z76 := Tryz.sizeOf210
  v76 := Tryz.zeroValue210
  t77 := Tryz.underlying211
  a77 := Tryz.isAgg211
  z77 := Tryz.sizeOf211
  v77 := Tryz.zeroValue211 }
end Go.Proofs.YtialookpnoaogaaGreat
/- slices.SortFunc at Lsas of ours of the call's own: they are sorted. -/
set_option linter.unusedVariables false
set_option linter.unusedSimpArgs false
namespace Go.Proofs.YtialookpnoaogaaGreat
open Go.RowKit Go.Sort Go.Shelf

instance : Inhabited OwnE := ⟨⟨0, 0, 0, 0, none, 0, 0, 0, none, 0, 0⟩⟩
theorem ltO (x y : OwnE) : ltOf cmpO x y = true ↔ x.area < y.area ∨ x.area = y.area ∧ (x.type < y.type ∨ x.type = y.type ∧ x.id < y.id) := by
  unfold ltOf cmpO orI cmpI
  repeat' split
  all_goals simp
  all_goals omega
theorem swoO : SWO (ltOf cmpO) where
  irrefl x := by
    rw [Bool.eq_false_iff]
    intro h
    rw [ltO] at h
    omega
  trans x y z h1 h2 := by
    rw [ltO] at *
    omega
  ntrans x y z h1 h2 := by
    rw [Bool.eq_false_iff] at *
    intro h
    rw [ne_eq, ltO] at h1 h2
    rw [ltO] at h
    omega
theorem flat_rowsO (L : List OwnE) : flatK OwnE.vals 10 L.toArray = (rowCells OwnE.vals L).toArray := by
  apply Array.ext_getElem?
  intro t
  by_cases ht : t < L.length * 10
  · have h1 : (flatK OwnE.vals 10 L.toArray)[t]? = some ((OwnE.vals L.toArray[t / 10]!)[t % 10]!) := by
      have := get_flatK OwnE.vals 10 L.toArray t (by simpa using ht)
      have h2 : t < (flatK OwnE.vals 10 L.toArray).size := by simpa using ht
      rw [getElem!_pos _ t h2] at this
      rw [Array.getElem?_eq_getElem h2, this]
    rw [h1]
    have hi : t / 10 < L.length := by omega
    have hx : L[t / 10]? = some L[t / 10] := List.getElem?_eq_getElem hi
    have h3 := rowCells_get ownE_len L (t / 10) _ hx (t % 10) (by omega)
    rw [show t / 10 * 10 + t % 10 = t by omega] at h3
    rw [List.getElem?_toArray, h3]
    have h4 : L.toArray[t / 10]! = L[t / 10] := by rw [getElem!_pos L.toArray (t / 10) (by simpa using hi)]; simp
    rw [h4]
    have h5 : t % 10 < (OwnE.vals L[t / 10]).length := by rw [ownE_len]; omega
    rw [List.getElem?_eq_getElem h5, getElem!_pos (OwnE.vals L[t / 10]) (t % 10) h5]
  · rw [Array.getElem?_eq_none (by simpa using ht), Array.getElem?_eq_none (by rw [List.size_toArray, rowCells_len ownE_len]; omega)]
theorem isAggO (w : World) : (isAgg (Tryz.sortOwn15_ren.t 24)).run Tryz.prog w = .ok true w := Tryz.isAgg77 w
theorem sizeO (w : World) : (Go.sizeOf (Tryz.sortOwn15_ren.t 24)).run Tryz.prog w = .ok 10 w := Tryz.sizeOf77 w
set_option maxRecDepth 100000 in
set_option maxHeartbeats 4000000 in
theorem sortOwn_any (v : Value) (L : List OwnE) (w0 w : World) (hO : Hid (OwnR 77 10 OwnE.vals w0 w v L)) (hl : L.length ≤ 1000000) :
    Calls Tryz.prog 25 #[v, .func (.func 26) #[] #[]] w fun e w' => e = .returned (.tuple #[]) ∧ ∃ S, S.Perm L ∧ S.Pairwise (fun x y => ltOf cmpO y x = false) ∧ OwnR 77 10 OwnE.vals w0 w' v S ∧ Keeps (fun i => v.ownBlock = some i) w w' := by
  obtain ⟨⟨hlen, hv⟩, hb, hs⟩ := hO.out
  rcases hv with ⟨rfl, h0⟩ | ⟨g, cap, cur, rfl, -, hg, hc1, hc2, hc3, hc4⟩
  · obtain rfl : L = [] := List.eq_nil_of_length_eq_zero h0
    refine (AnyF.slices_SortFunc_none Tryz.sortOwn15 none 0 (.func (.func 26) #[] #[]) w).mono ?_
    rintro e w' ⟨rfl, rfl⟩
    exact ⟨rfl, [], List.Perm.refl _, List.Pairwise.nil, hO.out, Keeps.refl _ _⟩
  · have hat := hO.out.at ownE_len
    have hgl : g < w.heap.size := lt_of_block hg
    have eg : ∀ args w, (callFunc 26 args).run Tryz.prog w = .ok (.enter 26 args) w := enters_of Tryz.func26 (by kernel_rfl) rfl
    have hH : HoldsK OwnE.vals 10 w g 0 L.toArray := by
      intro j hj
      rw [flat_rowsO] at hj ⊢
      have hj2 : j < (rowCells OwnE.vals L).length := by simpa using hj
      rw [Nat.zero_add]
      constructor
      · have h1 : cur[j]? = some (rowCells OwnE.vals L)[j] := by
          have h2 : (cur.toList.take (L.length * 10))[j]? = (rowCells OwnE.vals L)[j]? := by rw [hc4]
          rw [List.getElem?_take_of_lt (by rw [rowCells_len ownE_len] at hj2; exact hj2), List.getElem?_eq_getElem hj2] at h2
          simpa using h2
        rw [cell_of_row _ _ _ _ _ _ hg, h1]
        have h3 : (rowCells OwnE.vals L).toArray[j]! = (rowCells OwnE.vals L)[j] := by rw [getElem!_pos (rowCells OwnE.vals L).toArray j hj]; simp
        rw [h3]; rfl
      · have hB : BlkAt w g 77 cur.toList := by unfold BlkAt; simpa using hg
        exact hB.frozen j
    have hcmp : CmpLays Tryz.prog 26 #[] OwnE.vals 10 cmpO g 0 L.toArray.size w := fun m os dk _ x y => orderOwn_c x y _
    have hcon := AnyQ.slices_SortFunc Tryz.sortOwn15 10 isAggO sizeO OwnE.vals ownE_len ownE_one cmpO swoO 26 #[] g 0 cap L.toArray w eg hcmp hH hgl (by simp; omega)
    rw [List.size_toArray] at hcon
    refine hcon.mono ?_
    rintro e w' ⟨rfl, d', n, os, hP, hSo, rfl⟩
    obtain ⟨S, rfl⟩ : ∃ S : List OwnE, d' = S.toArray := ⟨d'.toList, by simp⟩
    have hSp : S.Perm L := by
      obtain ⟨hsz, -, hperm⟩ := hP
      have e1 : S.toArray.extract 0 L.toArray.size = S.toArray := by rw [← hsz]; exact Array.extract_size
      rw [List.size_toArray] at e1
      rw [e1] at hperm
      have e2 : L.toArray.extract 0 L.length = L.toArray := by
        have := Array.extract_size (xs := L.toArray)
        rwa [List.size_toArray] at this
      rw [e2] at hperm
      simpa using hperm
    have hSl : S.length = L.length := hSp.length_eq
    have hSr : S.Pairwise (fun x y => ltOf cmpO y x = false) := by
      rw [List.pairwise_iff_getElem]
      intro i j hi hj hij
      have h1 := hSo i j (Nat.zero_le _) hij (by omega)
      rwa [getElem!_pos S.toArray i (by simpa using hi), getElem!_pos S.toArray j (by simpa using hj)] at h1
    clear hP hSo
    have hp : ∀ k, k < w.heap.size → (sortWorldK OwnE.vals 10 w g 0 n S.toArray os).heap[k]? = (putRowK OwnE.vals 10 (Sort.ahead w n) g 0 S.toArray).heap[k]? := fun k hk => by
      show ((putRowK OwnE.vals 10 (Sort.ahead w n) g 0 S.toArray).heap ++ os)[k]? = _
      rw [Array.getElem?_append_left (by unfold putRowK; rw [size_putRow]; exact hk)]
    have hblk : (putRowK OwnE.vals 10 (Sort.ahead w n) g 0 S.toArray).heap[g]? = some (.cells (putCells id 0 (rowCells OwnE.vals S).toArray cur) 77 (0, 0)) := by
      unfold putRowK putRow mapBlock
      rw [flat_rowsO]
      show (w.heap.modify g _)[g]? = _
      rw [Array.getElem?_modify, if_pos rfl, hg]; rfl
    have hoth : ∀ k, k ≠ g → (putRowK OwnE.vals 10 (Sort.ahead w n) g 0 S.toArray).heap[k]? = w.heap[k]? := fun k hk => by
      unfold putRowK putRow mapBlock
      show (w.heap.modify g _)[k]? = _
      rw [Array.getElem?_modify, if_neg (fun e => hk e.symm)]
    have hsz : w.heap.size ≤ (sortWorldK OwnE.vals 10 w g 0 n S.toArray os).heap.size := by
      show _ ≤ ((putRowK OwnE.vals 10 (Sort.ahead w n) g 0 S.toArray).heap ++ os).size
      rw [Array.size_append]
      unfold putRowK; rw [size_putRow]; exact Nat.le_add_right _ _
    refine ⟨rfl, S, hSp, hSr, ⟨⟨by rw [rowCells_len ownE_len, hSl], .inr ⟨g, cap, putCells id 0 (rowCells OwnE.vals S).toArray cur, by rw [hSl], Nat.zero_le _, by rw [hp g hgl]; exact hblk, by rw [hSl]; exact hc1, hc2, by unfold putCells; simpa using hc3, ?_⟩⟩, fun k e => hb k e, Nat.le_trans hs hsz⟩, ?_⟩
    · apply List.ext_getElem?
      intro j
      have hrl := rowCells_len ownE_len S
      by_cases hj : j < S.length * 10
      · rw [List.getElem?_take_of_lt hj]
        have hj3 : j < cur.size := by rw [hc3]; rw [hSl] at hj; omega
        have h1 : (putCells id 0 (rowCells OwnE.vals S).toArray cur).toList[j]? = some (if 0 ≤ j ∧ j < 0 + (rowCells OwnE.vals S).toArray.size then id (rowCells OwnE.vals S).toArray[j - 0]! else cur[j]) := by
          unfold putCells
          rw [Array.getElem?_toList, Array.getElem?_mapIdx, Array.getElem?_eq_getElem hj3]; rfl
        rw [h1, if_pos ⟨Nat.zero_le _, by simp; omega⟩]
        have hj4 : j < (rowCells OwnE.vals S).toArray.size := by simp; omega
        rw [Nat.sub_zero, getElem!_pos (rowCells OwnE.vals S).toArray j hj4, List.getElem?_eq_getElem (by omega)]
        simp
      · rw [List.getElem?_eq_none (by rw [List.length_take]; omega), List.getElem?_eq_none (by omega)]
    · exact ⟨rfl, rfl, rfl, hsz, fun k hk hn => by rw [hp k hk]; exact hoth k (fun e => hn (by rw [e]; rfl))⟩
end Go.Proofs.YtialookpnoaogaaGreat
/- Of adv: what is told, plain. -/
set_option linter.unusedVariables false
set_option linter.unusedSimpArgs false
namespace Go.Proofs.YtialookpnoaogaaGreat
open Go.RowKit

theorem perm_lift {α β : Type} (f : α → β) : ∀ {S : List β} {l : List α}, S.Perm (l.map f) → ∃ l' : List α, l'.Perm l ∧ l'.map f = S
  | [], l, h => by
    have h1 := h.length_eq
    rw [List.length_map] at h1
    have : l = [] := List.eq_nil_of_length_eq_zero h1.symm
    subst this
    exact ⟨[], List.Perm.refl _, rfl⟩
  | a :: S, l, h => by
    have ha : a ∈ l.map f := h.subset List.mem_cons_self
    obtain ⟨x, hx, rfl⟩ := List.mem_map.1 ha
    obtain ⟨s, t, rfl⟩ := List.append_of_mem hx
    have h2 : S.Perm ((s ++ t).map f) := by
      have h3 := h.trans ((List.perm_middle (a := x) (l₁ := s) (l₂ := t)).map f)
      rw [List.map_cons, List.perm_cons] at h3
      exact h3
    obtain ⟨l', h4, h5⟩ := perm_lift f h2
    exact ⟨x :: l', (h4.cons x).trans List.perm_middle.symm, by rw [List.map_cons, h5]⟩
/-- an Lsa of ours, plain -/
structure TellD where
  area : Nat
  type : Int
  id : Nat
  me : Nat
  mask : Nat
  links : List LinkD
  nums : List Nat
def routD (me : Nat) (lk : StandR → List LinkD) (xs : List StandR) (a : Nat) : TellD := ⟨a, 1, me, me, 0, (areaLinks lk xs a).take 40, []⟩
def netD (me : Nat) (pf : StandR → List PeerD) (x : StandR) : TellD := ⟨x.s.area, 2, x.s.addr, me, x.s.mask, [], netIds me (pf x)⟩
/-- what a router of these stands tells -/
def IsTold (me : Nat) (lk : StandR → List LinkD) (pf : StandR → List PeerD) (xs : List StandR) (d : TellD) : Prop :=
  (∃ x ∈ xs, d = routD me lk xs x.s.area) ∨ (∃ x ∈ xs, speaksB x.s x.dr x.n = true ∧ d = netD me pf x)
/-- .. in memory -/
structure OwnOf (W : World) (e : OwnE) (d : TellD) : Prop where
  area : e.area = d.area
  type : e.type = d.type
  id : e.id = d.id
  own_ : e.me = d.me
  mask : e.mask = d.mask
  n5 : e.n5 = d.links.length
  n7 : e.n7 = d.nums.length
  links : RowsAt 4 linkVals W (.slice e.p5 e.n5 e.c5) d.links
  nums : NumsAt W (.slice e.p7 e.n7 e.c7) d.nums
def ltD (x y : TellD) : Prop := x.area < y.area ∨ x.area = y.area ∧ (x.type < y.type ∨ x.type = y.type ∧ x.id < y.id)
theorem ltD_irr (x : TellD) : ¬ ltD x x := by unfold ltD; omega
theorem ltD_asym {x y : TellD} (h : ltD x y) : ¬ ltD y x := by unfold ltD at *; omega
/-- rows that rise are told by their members -/
theorem told_ext : ∀ {a b : List TellD}, a.Pairwise ltD → b.Pairwise ltD → (∀ z, z ∈ a ↔ z ∈ b) → a = b
  | [], [], _, _, _ => rfl
  | [], y :: b, _, _, h => by have := (h y).2 List.mem_cons_self; cases this
  | x :: a, [], _, _, h => by have := (h x).1 List.mem_cons_self; cases this
  | x :: a, y :: b, ha, hb, h => by
    rw [List.pairwise_cons] at ha hb
    have hxy : x = y := by
      rcases List.mem_cons.1 ((h x).1 List.mem_cons_self) with e | e
      · exact e
      · rcases List.mem_cons.1 ((h y).2 List.mem_cons_self) with e2 | e2
        · exact e2.symm
        · exact absurd (ha.1 y e2) (ltD_asym (hb.1 x e))
    subst hxy
    rw [told_ext ha.2 hb.2 (fun z => ⟨fun hz => ?_, fun hz => ?_⟩)]
    · rcases List.mem_cons.1 ((h z).1 (List.mem_cons_of_mem _ hz)) with e | e
      · subst e; exact absurd (ha.1 z hz) (ltD_irr z)
      · exact e
    · rcases List.mem_cons.1 ((h z).2 (List.mem_cons_of_mem _ hz)) with e | e
      · subst e; exact absurd (hb.1 z hz) (ltD_irr z)
      · exact e
/-- rows that are sorted and have unlike keys rise -/
def keyD (d : TellD) : Nat × Int × Nat := (d.area, d.type, d.id)
theorem rise_of {l : List TellD} (hs : l.Pairwise (fun x y => ¬ ltD y x)) (hn : (l.map keyD).Nodup) : l.Pairwise ltD := by
  rw [List.Nodup, List.pairwise_map] at hn
  refine (hs.and hn).imp ?_
  rintro x y ⟨h1, h2⟩
  unfold ltD at *
  unfold keyD at h2
  rcases Nat.lt_trichotomy x.area y.area with h | h | h
  · exact .inl h
  · refine .inr ⟨h, ?_⟩
    rcases Int.lt_trichotomy x.type y.type with k | k | k
    · exact .inl k
    · refine .inr ⟨k, ?_⟩
      rcases Nat.lt_trichotomy x.id y.id with m | m | m
      · exact m
      · exact absurd (by rw [h, k, m]) h2
      · exact absurd (by omega) h1
    · exact absurd (by omega) h1
  · exact absurd (by omega) h1
theorem keep_rows_ty {α : Type} {sz : Nat} {cv : α → List Value} {W W' : World} {F : Nat → Prop} {v : Value} {xs : List α} {t : TypeId} (h : RowsAt sz cv W v xs) (k : Keeps F W W') (hF : ∀ i, F i → ∃ cur r, W.heap[i]? = some (.cells cur 77 r)) (ht : ∀ i, v.ownBlock = some i → ∃ cur r, W.heap[i]? = some (.cells cur t r)) (hne : 77 ≠ t) : RowsAt sz cv W' v xs :=
  h.keepF k (fun _ i e1 e2 => by
    obtain ⟨c1, r1, h1⟩ := ht i e1
    obtain ⟨c2, r2, h2⟩ := hF i e2
    rw [h1] at h2
    injection h2 with h2
    injection h2 with _ h2 _
    exact hne h2.symm)
theorem nums_nil (W : World) : NumsAt W (.slice none 0 0) [] := ⟨none, 0, rfl, fun _ => rfl, by simp, fun h => by simp at h⟩
theorem rows_nil {α : Type} {sz : Nat} {cv : α → List Value} (W : World) : RowsAt sz cv W (.slice none 0 0) ([] : List α) := ⟨none, 0, rfl, fun _ => rfl, by simp, fun h => by simp at h⟩
end Go.Proofs.YtialookpnoaogaaGreat
/- Of adv: told Lsas, sorted: plain. -/
set_option linter.unusedVariables false
set_option linter.unusedSimpArgs false
namespace Go.Proofs.YtialookpnoaogaaGreat
open Go.RowKit

theorem told_sorted {me : Nat} {lk : StandR → List LinkD} {pf : StandR → List PeerD} {xs : List StandR} {es : List OwnE} {zs : List (OwnE × StandR)} {S : List OwnE} {W : World}
    (hA : ∀ e ∈ es, OwnOf W e (routD me lk xs e.area)) (hB : ∀ z ∈ zs, OwnOf W z.1 (netD me pf z.2)) (hn : (es.map (·.area)).Nodup) (hl : ∀ a, a ∈ es.map (·.area) ↔ ∃ x ∈ xs, x.s.area = a)
    (hz : zs.map (·.2) = xs.filter (fun x => speaksB x.s x.dr x.n)) (hU : (xs.map (·.s.addr)).Nodup) (hp : S.Perm (es ++ zs.map (·.1))) (hs : S.Pairwise (fun x y => Go.Proofs.ltOf cmpO y x = false)) :
    ∃ Z : List (OwnE × TellD), Z.map (·.1) = S ∧ (∀ z ∈ Z, OwnOf W z.1 z.2) ∧ (∀ d, d ∈ Z.map (·.2) ↔ IsTold me lk pf xs d) ∧ (Z.map (·.2)).Pairwise ltD := by
  obtain ⟨A, hAd⟩ : ∃ A : List (OwnE × TellD), A = es.map (fun e => (e, routD me lk xs e.area)) ++ zs.map (fun z => (z.1, netD me pf z.2)) := ⟨_, rfl⟩
  have hA1 : A.map (·.1) = es ++ zs.map (·.1) := by
    rw [hAd, List.map_append, List.map_map, List.map_map]
    congr 1
    exact List.map_id es
  have hA2 : A.map (·.2) = es.map (fun e => routD me lk xs e.area) ++ zs.map (fun z => netD me pf z.2) := by
    rw [hAd, List.map_append, List.map_map, List.map_map]; rfl
  have hAo : ∀ z ∈ A, OwnOf W z.1 z.2 := by
    intro z hz
    rw [hAd, List.mem_append] at hz
    rcases hz with hz | hz
    · obtain ⟨e, he, rfl⟩ := List.mem_map.1 hz; exact hA e he
    · obtain ⟨e, he, rfl⟩ := List.mem_map.1 hz; exact hB e he
  rw [← hA1] at hp
  obtain ⟨Z, hZp, hZ1⟩ := perm_lift (fun z : OwnE × TellD => z.1) hp
  have hZo : ∀ z ∈ Z, OwnOf W z.1 z.2 := fun z hz => hAo z (hZp.subset hz)
  refine ⟨Z, hZ1, hZo, fun d => ?_, rise_of ?_ ?_⟩
  · rw [(hZp.map (·.2)).mem_iff, hA2, List.mem_append, List.mem_map, List.mem_map]
    unfold IsTold
    constructor
    · rintro (⟨e, he, rfl⟩ | ⟨z, hz2, rfl⟩)
      · obtain ⟨x, hx, e2⟩ := (hl e.area).1 (List.mem_map.2 ⟨e, he, rfl⟩)
        exact .inl ⟨x, hx, by rw [e2]⟩
      · have h1 : z.2 ∈ zs.map (·.2) := List.mem_map.2 ⟨z, hz2, rfl⟩
        rw [hz, List.mem_filter] at h1
        exact .inr ⟨z.2, h1.1, h1.2, rfl⟩
    · rintro (⟨x, hx, rfl⟩ | ⟨x, hx, h2, rfl⟩)
      · obtain ⟨e, he, e2⟩ := List.mem_map.1 ((hl x.s.area).2 ⟨x, hx, rfl⟩)
        exact .inl ⟨e, he, by rw [e2]⟩
      · have h1 : x ∈ zs.map (·.2) := by rw [hz, List.mem_filter]; exact ⟨hx, h2⟩
        obtain ⟨z, hz2, rfl⟩ := List.mem_map.1 h1
        exact .inr ⟨z, hz2, rfl⟩
  · rw [List.pairwise_map]
    rw [← hZ1, List.pairwise_map] at hs
    refine List.Pairwise.imp_of_mem ?_ hs
    intro a b ha hb h
    have h1 := hZo a ha
    have h2 := hZo b hb
    intro h3
    rw [Bool.eq_false_iff, ne_eq, ltO] at h
    apply h
    unfold ltD at h3
    rw [h1.area, h1.type, h1.id, h2.area, h2.type, h2.id]
    exact h3
  · have h1 : ((A.map (·.2)).map keyD).Nodup := by
      rw [hA2, List.map_append, List.nodup_append]
      refine ⟨?_, ?_, ?_⟩
      · rw [List.map_map]
        rw [List.Nodup, List.pairwise_map] at hn ⊢
        exact hn.imp (fun h e => h (by injection e))
      · have h2 : (zs.map (fun z => netD me pf z.2)).map keyD = (xs.filter (fun x => speaksB x.s x.dr x.n)).map (fun x => (x.s.area, (2 : Int), x.s.addr)) := by
          rw [← hz, List.map_map, List.map_map]; rfl
        rw [h2, List.Nodup, List.pairwise_map]
        have h3 : ((xs.filter (fun x => speaksB x.s x.dr x.n)).map (·.s.addr)).Nodup := hU.sublist (List.filter_sublist.map _)
        rw [List.Nodup, List.pairwise_map] at h3
        exact h3.imp (fun h e => h (by injection e with e1 e2; injection e2))
      · intro a ha b hb e
        obtain ⟨d, hd, rfl⟩ := List.mem_map.1 ha
        obtain ⟨d2, hd2, rfl⟩ := List.mem_map.1 hb
        obtain ⟨e3, -, rfl⟩ := List.mem_map.1 hd
        obtain ⟨e4, -, rfl⟩ := List.mem_map.1 hd2
        injection e with e1 e2
        injection e2 with e2 _
        revert e2
        show ¬ (1 : Int) = 2
        decide
    exact ((hZp.map (·.2)).map keyD).nodup_iff.2 h1
theorem ty_keep {W W' : World} {F : Nat → Prop} {t : TypeId} {i : Nat} (h : ∃ cur r, W.heap[i]? = some (.cells cur t r)) (k : Keeps F W W') (hF : ∀ i, F i → ∃ cur r, W.heap[i]? = some (.cells cur 77 r)) (hne : 77 ≠ t) : ∃ cur r, W'.heap[i]? = some (.cells cur t r) := by
  obtain ⟨c1, r1, h1⟩ := h
  refine ⟨c1, r1, ?_⟩
  have hi : i < W.heap.size := (Array.getElem?_eq_some_iff.1 h1).1
  rw [k.block i hi (fun f => ?_)]
  · exact h1
  · obtain ⟨c2, r2, h2⟩ := hF i f
    rw [h1] at h2
    injection h2 with h2
    injection h2 with _ h2 _
    exact hne h2.symm
end Go.Proofs.YtialookpnoaogaaGreat
/- Of adv: what the document gathers, name by name: plain. -/
set_option linter.unusedVariables false
set_option linter.unusedSimpArgs false
namespace Go.Proofs.YtialookpnoaogaaGreat
open Go.RowKit

/-- is it the area's row of a router? -/
def areaRow (a : Nat) (d : TellD) : Bool := decide (d.area = a) && decide (d.type = 1)
def moreLinks (ls : List LinkD) (d : TellD) : TellD := { d with links := (d.links ++ ls).take 40 }
/-- the area's row has more links -/
def docRow (me a : Nat) (ls : List LinkD) (out : List TellD) : List TellD :=
  if out.any (areaRow a) = true then out.map (fun d => if areaRow a d = true then moreLinks ls d else d) else out ++ [⟨a, 1, me, me, 0, ls.take 40, []⟩]
def docStep (me : Nat) (lk : StandR → List LinkD) (pf : StandR → List PeerD) (out : List TellD) (x : StandR) : List TellD :=
  docRow me x.s.area (lk x) out ++ (if speaksB x.s x.dr x.n = true then [netD me pf x] else [])
theorem areaRow_iff (a : Nat) (d : TellD) : areaRow a d = true ↔ d.area = a ∧ d.type = 1 := by unfold areaRow; simp
theorem rout_row (me : Nat) (lk : StandR → List LinkD) (xs : List StandR) (a b : Nat) : areaRow a (routD me lk xs b) = decide (b = a) := by unfold areaRow routD; simp
theorem net_row (me : Nat) (pf : StandR → List PeerD) (x : StandR) (a : Nat) : areaRow a (netD me pf x) = false := by unfold areaRow netD; simp
theorem rout_more (me : Nat) (lk : StandR → List LinkD) (xs : List StandR) (x : StandR) : moreLinks (lk x) (routD me lk xs x.s.area) = routD me lk (xs ++ [x]) x.s.area := by
  unfold moreLinks routD
  rw [areaLinks_snoc, if_pos rfl]
  simp only [TellD.mk.injEq, true_and, and_true]
  rw [List.take_append, List.take_append, List.take_take, List.length_take]
  simp only [Nat.min_self]
  congr 2
  omega
theorem rout_same (me : Nat) (lk : StandR → List LinkD) (xs : List StandR) (x : StandR) (a : Nat) (h : x.s.area ≠ a) : routD me lk (xs ++ [x]) a = routD me lk xs a := by
  unfold routD
  rw [areaLinks_snoc, if_neg h]
theorem rout_new (me : Nat) (lk : StandR → List LinkD) (xs : List StandR) (x : StandR) (h : ∀ y ∈ xs, y.s.area ≠ x.s.area) : routD me lk (xs ++ [x]) x.s.area = ⟨x.s.area, 1, me, me, 0, (lk x).take 40, []⟩ := by
  unfold routD
  rw [areaLinks_snoc, if_pos rfl]
  have : areaLinks lk xs x.s.area = [] := by
    unfold areaLinks
    rw [List.filter_eq_nil_iff.2 (fun y hy => by simpa using h y hy)]
    rfl
  rw [this, List.nil_append]
theorem docRow_mem {me : Nat} {lk : StandR → List LinkD} {pf : StandR → List PeerD} {xs : List StandR} {out : List TellD} (x : StandR) (hm : ∀ d, d ∈ out ↔ IsTold me lk pf xs d) (d : TellD) :
    d ∈ docRow me x.s.area (lk x) out ↔ (∃ y ∈ xs ++ [x], d = routD me lk (xs ++ [x]) y.s.area) ∨ (∃ y ∈ xs, speaksB y.s y.dr y.n = true ∧ d = netD me pf y) := by
  have hany : out.any (areaRow x.s.area) = true ↔ ∃ y ∈ xs, y.s.area = x.s.area := by
    rw [List.any_eq_true]
    constructor
    · rintro ⟨d0, h0, h1⟩
      rcases (hm d0).1 h0 with ⟨y, hy, rfl⟩ | ⟨y, hy, -, rfl⟩
      · rw [rout_row] at h1
        exact ⟨y, hy, by simpa using h1⟩
      · rw [net_row] at h1; cases h1
    · rintro ⟨y, hy, e⟩
      exact ⟨routD me lk xs y.s.area, (hm _).2 (.inl ⟨y, hy, rfl⟩), by rw [rout_row]; simpa using e⟩
  unfold docRow
  split
  · rename_i h
    obtain ⟨y0, hy0, e0⟩ := hany.1 h
    rw [List.mem_map]
    constructor
    · rintro ⟨d0, h0, rfl⟩
      rcases (hm d0).1 h0 with ⟨y, hy, rfl⟩ | ⟨y, hy, h2, rfl⟩
      · by_cases e : y.s.area = x.s.area
        · rw [rout_row, if_pos (by simpa using e), e, rout_more]
          exact .inl ⟨x, by simp, rfl⟩
        · rw [rout_row, if_neg (by simpa using e)]
          exact .inl ⟨y, by simp [hy], by rw [rout_same _ _ _ _ _ (fun e2 => e e2.symm)]⟩
      · rw [net_row, if_neg (by simp)]
        exact .inr ⟨y, hy, h2, rfl⟩
    · rintro (⟨y, hy, rfl⟩ | ⟨y, hy, h2, rfl⟩)
      · by_cases e : y.s.area = x.s.area
        · exact ⟨routD me lk xs x.s.area, (hm _).2 (.inl ⟨y0, hy0, by rw [e0]⟩), by rw [rout_row, if_pos (by simp), rout_more, e]⟩
        · have hy2 : y ∈ xs := by
            rcases List.mem_append.1 hy with h | h
            · exact h
            · rw [List.mem_singleton] at h; exact absurd (by rw [h]) e
          exact ⟨routD me lk xs y.s.area, (hm _).2 (.inl ⟨y, hy2, rfl⟩), by rw [rout_row, if_neg (by simpa using e), rout_same _ _ _ _ _ (fun e2 => e e2.symm)]⟩
      · exact ⟨netD me pf y, (hm _).2 (.inr ⟨y, hy, h2, rfl⟩), by rw [net_row, if_neg (by simp)]⟩
  · rename_i h
    have hno : ∀ y ∈ xs, y.s.area ≠ x.s.area := fun y hy e => h (hany.2 ⟨y, hy, e⟩)
    rw [List.mem_append, List.mem_singleton, hm d, ← rout_new me lk xs x hno]
    unfold IsTold
    constructor
    · rintro ((⟨y, hy, rfl⟩ | h2) | rfl)
      · exact .inl ⟨y, by simp [hy], by rw [rout_same _ _ _ _ _ (fun e => hno y hy e.symm)]⟩
      · exact .inr h2
      · exact .inl ⟨x, by simp, rfl⟩
    · rintro (⟨y, hy, rfl⟩ | h2)
      · rcases List.mem_append.1 hy with h3 | h3
        · exact .inl (.inl ⟨y, h3, by rw [rout_same _ _ _ _ _ (fun e => hno y h3 e.symm)]⟩)
        · rw [List.mem_singleton] at h3
          subst h3
          exact .inr rfl
      · exact .inl (.inr h2)
/-- one more name: what is gathered is what is told -/
theorem docStep_mem {me : Nat} {lk : StandR → List LinkD} {pf : StandR → List PeerD} {xs : List StandR} {out : List TellD} (x : StandR) (hm : ∀ d, d ∈ out ↔ IsTold me lk pf xs d) (d : TellD) :
    d ∈ docStep me lk pf out x ↔ IsTold me lk pf (xs ++ [x]) d := by
  unfold docStep
  rw [List.mem_append, docRow_mem x hm d]
  unfold IsTold
  constructor
  · rintro ((h | ⟨y, hy, h2, h3⟩) | h)
    · exact .inl h
    · exact .inr ⟨y, by simp [hy], h2, h3⟩
    · split at h
      · rw [List.mem_singleton] at h
        exact .inr ⟨x, by simp, by assumption, h⟩
      · cases h
  · rintro (h | ⟨y, hy, h2, h3⟩)
    · exact .inl (.inl h)
    · rcases List.mem_append.1 hy with h | h
      · exact .inl (.inr ⟨y, h, h2, h3⟩)
      · rw [List.mem_singleton] at h
        subst h
        rw [if_pos h2]
        exact .inr (by rw [List.mem_singleton]; exact h3)
theorem docRow_keys {me a : Nat} {ls : List LinkD} {out : List TellD} (h : (out.map keyD).Nodup) : ((docRow me a ls out).map keyD).Nodup := by
  unfold docRow
  split
  · rw [List.map_map]
    have e : (keyD ∘ fun d => if areaRow a d = true then moreLinks ls d else d) = keyD := by
      funext d
      show keyD (if areaRow a d = true then moreLinks ls d else d) = keyD d
      split <;> rfl
    rw [e]; exact h
  · rename_i hno
    rw [List.map_append, List.nodup_append]
    refine ⟨h, by simp, fun k hk k2 hk2 e => ?_⟩
    rw [List.map_cons, List.map_nil, List.mem_singleton] at hk2
    obtain ⟨d, hd, rfl⟩ := List.mem_map.1 hk
    apply hno
    rw [List.any_eq_true]
    refine ⟨d, hd, ?_⟩
    rw [hk2] at e
    unfold keyD at e
    injection e with e1 e2
    injection e2 with e2 _
    exact (areaRow_iff a d).2 ⟨e1, e2⟩
theorem docStep_keys {me : Nat} {lk : StandR → List LinkD} {pf : StandR → List PeerD} {xs : List StandR} {out : List TellD} (x : StandR) (hm : ∀ d, d ∈ out ↔ IsTold me lk pf xs d) (hn : (out.map keyD).Nodup) (hU : ∀ y ∈ xs, y.s.addr ≠ x.s.addr) : ((docStep me lk pf out x).map keyD).Nodup := by
  unfold docStep
  rw [List.map_append, List.nodup_append]
  refine ⟨docRow_keys hn, by split <;> simp, fun k hk k2 hk2 e => ?_⟩
  obtain ⟨d, hd, rfl⟩ := List.mem_map.1 hk
  obtain ⟨d2, hd2, rfl⟩ := List.mem_map.1 hk2
  split at hd2
  · rw [List.mem_singleton] at hd2
    subst hd2
    unfold keyD netD at e
    injection e with e1 e2
    injection e2 with e2 e3
    rcases (docRow_mem x hm d).1 hd with ⟨y, hy, rfl⟩ | ⟨y, hy, -, rfl⟩
    · have e2 : (1 : Int) = 2 := e2
      omega
    · exact hU y hy e3
  · cases hd2
/-- all that the document gathers -/
def docAll (me : Nat) (lk : StandR → List LinkD) (pf : StandR → List PeerD) (xs : List StandR) : List TellD := xs.foldl (docStep me lk pf) []
theorem docAll_snoc (me : Nat) (lk : StandR → List LinkD) (pf : StandR → List PeerD) (xs : List StandR) (x : StandR) : docAll me lk pf (xs ++ [x]) = docStep me lk pf (docAll me lk pf xs) x := by
  unfold docAll
  rw [List.foldl_append]; rfl
theorem docAll_told (me : Nat) (lk : StandR → List LinkD) (pf : StandR → List PeerD) (xs : List StandR) (hU : (xs.map (·.s.addr)).Nodup) : ∀ k, k ≤ xs.length → (∀ d, d ∈ docAll me lk pf (xs.take k) ↔ IsTold me lk pf (xs.take k) d) ∧ ((docAll me lk pf (xs.take k)).map keyD).Nodup := by
  intro k
  induction k with
  | zero => intro _; exact ⟨fun d => by simp [docAll, IsTold], by simp [docAll]⟩
  | succ k ih =>
    intro hk
    obtain ⟨h1, h2⟩ := ih (by omega)
    have hx : xs[k]? = some xs[k] := List.getElem?_eq_getElem (by omega)
    have e : xs.take (k + 1) = xs.take k ++ [xs[k]] := by rw [List.take_add_one, hx]; rfl
    rw [e, docAll_snoc]
    refine ⟨docStep_mem _ h1, docStep_keys _ h1 h2 (fun y hy e2 => ?_)⟩
    rw [List.Nodup, List.pairwise_map, List.pairwise_iff_getElem] at hU
    obtain ⟨i, hi⟩ := List.mem_iff_getElem?.1 hy
    rw [List.getElem?_take] at hi
    split at hi
    · rename_i hik
      obtain ⟨h3, rfl⟩ := List.getElem?_eq_some_iff.1 hi
      exact hU i k h3 (by omega) hik e2
    · cases hi
end Go.Proofs.YtialookpnoaogaaGreat
