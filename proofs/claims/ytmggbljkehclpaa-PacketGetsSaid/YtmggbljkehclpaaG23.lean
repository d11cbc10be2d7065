/- PO POa POb PP -/
import Derived.Test.YtmggbljkehclpaaG21
import Derived.Test.YtmggbljkehclpaaG22
import Derived.Laws.ResultCell
set_option linter.unusedVariables false
set_option linter.unusedSimpArgs false
namespace Go.Proofs.Ytmggbljkehclpaa
open Go.RowKit
def b0s (lo : Nat) (p : Option Addr) : Prop := ∀ i n c, (Value.slice p n c).ownBlock = some i → lo ≤ i
theorem b0s.nil (lo : Nat) : b0s lo none := fun i n c e => by simp [Value.ownBlock] at e
theorem b0s.of {lo : Nat} {p : Option Addr} {n c : Nat} (h : ∀ i, (Value.slice p n c).ownBlock = some i → lo ≤ i) : b0s lo p := fun i n' c' e => h i (by cases p with | none => simp [Value.ownBlock] at e | some a => exact e)
def b0f (lo : Nat) (w : World) (v : Value) (P : a0x) : Prop :=
 ∃ pn cn ph ch pk ck pl cl, v = .agg (b05 P (.slice pn P.nbs.length cn) (.slice ph P.heads.length ch) (.slice pk P.keys.length ck) (.slice pl P.lsas.length cl)).toArray ∧ a0u w (.slice pn P.nbs.length cn) P.nbs ∧ g0b w (.slice ph P.heads.length ch) P.heads ∧ h0z w (.slice pk P.keys.length ck) P.keys ∧ d0n lo w (.slice pl P.lsas.length cl) P.lsas ∧ b0s lo pn ∧ b0s lo ph ∧ b0s lo pk
theorem b0f.mk {lo : Nat} {w : World} {v : Value} {P : a0x} {nn nh nk nl : Nat} {pn ph pk pl : Option Addr} {cn ch ck cl : Nat} (h1 : P.nbs.length = nn) (h2 : P.heads.length = nh) (h3 : P.keys.length = nk) (h4 : P.lsas.length = nl)
 (hv : v = .agg (b05 P (.slice pn nn cn) (.slice ph nh ch) (.slice pk nk ck) (.slice pl nl cl)).toArray) (a1 : a0u w (.slice pn nn cn) P.nbs) (a2 : g0b w (.slice ph nh ch) P.heads) (a3 : h0z w (.slice pk nk ck) P.keys) (a4 : d0n lo w (.slice pl nl cl) P.lsas) (f1 : b0s lo pn) (f2 : b0s lo ph) (f3 : b0s lo pk) : b0f lo w v P := by
 subst h1; subst h2; subst h3; subst h4
 exact ⟨_, _, _, _, _, _, _, _, hv, a1, a2, a3, a4, f1, f2, f3⟩
theorem b0f.keepF {F : Nat → Prop} {lo : Nat} {w w' : World} {v : Value} {P : a0x} (h : b0f lo w v P) (k : a02 F w w') (hF : ∀ i, lo ≤ i → ¬ F i) : b0f lo w' v P := by
 obtain ⟨pn, cn, ph, ch, pk, ck, pl, cl, hv, a1, a2, a3, a4, f1, f2, f3⟩ := h
 exact ⟨pn, cn, ph, ch, pk, ck, pl, cl, hv, a1.keepF k (fun _ i e => hF i (f1 i _ _ e)), a0q.keepF a2 k (fun _ i e => hF i (f2 i _ _ e)), a0q.keepF a3 k (fun _ i e => hF i (f3 i _ _ e)), a4.keepF k hF, f1, f2, f3⟩
theorem a0s (a b c : Int) (s : ByteArray) (d e f g h i : Int) (n : Value) (j k : Int) (x y z : Value) (hn : n.oneCell' = true) (hx : x.oneCell' = true) (hy : y.oneCell' = true) (hz : z.oneCell' = true) : (#[.int .i64 a, .int .u32 b, .int .u32 c, .string s, .int .u32 d, .int .i64 e, .int .i64 f, .int .i64 g, .int .u32 h, .int .u32 i, n, .int .i64 j, .int .u32 k, x, y, z] : Array Value).all (·.oneCell') = true := by
 simp; exact ⟨rfl, rfl, rfl, rfl, rfl, rfl, rfl, rfl, rfl, rfl, hn, rfl, rfl, hx, hy, hz⟩
def d0w (P : a0x) (er : Int) (w : World) (e : Ending) (w' : World) : Prop :=
 (∃ v, e = .returned (.tuple #[v, .int .i64 er]) ∧ b0f w.heap.size w' v P) ∧ a02 (fun _ => False) w w'
theorem a0g {P : Program} {fn : Func} {p u : Tmp} {ty : TypeId} (h : fn.results = #[.cell p ty, .tmp u]) (tmps : Array Value) (w : World) (b : Nat) (cs : List Value) (d : TypeDesc) (hp : tmps.getD p undef = .pointer (some ⟨b, 0, none⟩))
 (hc : w.rangeAt b 0 cs) (hu : P.underlying ty = some d) (hd : d.isRow = true) (hi : (P.info? ty).map (·.size) = some cs.length) : (results fn tmps).run P w = .ok (.tuple #[.agg cs.toArray, tmps.getD u undef]) w := by
 rw [results_cell_tmp h, hp]
 have hl := run_loadVar_mid w b 0 ty cs d hc hu hd hi
 simp only [asAddr, Sem.run_pure, Result.andThen, hl]
theorem h07 {P : Program} {ops : Array Oper} {rest : List Oper} {op : Oper} {a : Act} {w : World} {Q : Exit → Act → World → Prop} (hgd : op.guard = none) (ty : TypeId) (x y : Operand) (ho : op.op = .store ty x y)
 (b o : Nat) (cells : Array Value) (hx : a.eval x = .pointer (some ⟨b, o, none⟩)) (hy : a.eval y = .agg cells)
 (ht : w.there b o cells.size) (hi : (P.info? ty).map (·.size) = some cells.size) (h1 : cells.all (·.oneCell') = true)
 (h : ∀ w1, Hid (w1 = w.setCells b o cells.toList) → wpList P ops Q rest (a.put op.dst undef) w1) : wpList P ops Q (op :: rest) a w :=
 wpList_store_mid hgd ty x y ho b o cells hx hy ht hi h1 (h _ (Hi rfl))
theorem j0o {W : World} {g i b j : Nat} {v u : Value} (h : W.cell? ⟨g, i, none⟩ = some v) (hne : g ≠ b) : (W.setCell ⟨b, j, none⟩ u).cell? ⟨g, i, none⟩ = some v := by
 have k := (a02.refl (fun k => k = b) W).setCell (p := ⟨b, j, none⟩) (.inl rfl) u
 rw [k.cell (p := ⟨g, i, none⟩) (World.block_lt_of_cell? _ _ h) hne]; exact h
theorem k0w (sl : Value) (n : Nat) (l : List UInt8) (hn : l.length = n) (hl : n ≤ 1000000) (w : World) (h : Hid (a0a w sl l)) :
 Calls Try.prog 56 #[sl] w fun e w' => ∃ q d, e = .returned (.slice q (n / 20) d) ∧ OwnR 69 7 b0q w w' (.slice q (n / 20) d) (d0j l (n / 20)) ∧ a02 (fun _ => False) w w' := by
 subst hn
 obtain ⟨p, c, rfl, h1, h2, h3⟩ := h.out
 exact f0w p c l hl w h
theorem e02 (w : World) : g0b w (.slice none 0 0) [] := a0q.nil w
theorem c0s (w : World) : h0z w (.slice none 0 0) [] := a0q.nil w
set_option maxRecDepth 100000 in
set_option maxHeartbeats 8000000 in
theorem m0z (type : Int) (router area : Nat) (auth : List UInt8) (S : ByteArray) (hS : Hid (S = ⟨auth.toArray⟩)) (p : Option Addr) (c : Nat) (x : List UInt8) (hx : x.length ≤ 1000000) (w : World) (h : Hid (a0a w (.slice p x.length c) x)) (t1 : type ≠ 1) (t2 : type ≠ 2) (t3 : type ≠ 3) (t4 : type ≠ 4) (t5 : type ≠ 5) :
 Calls Try.prog 31 #[.agg (Pa type router area S 0 0 0 0 0 0 Sn 0 0 Sn Sn Sn), .slice p x.length c] w (d0w (e03 type router area auth) 0 w) := by
 obtain ⟨cs, hcs⟩ : ∃ cs : List Value, cs = (Pa' type router area S 0 0 0 0 0 0 Sn 0 0 Sn Sn Sn) := ⟨_, rfl⟩
 have hcsA : ((Pa type router area S 0 0 0 0 0 0 Sn 0 0 Sn Sn Sn) : Array Value) = cs.toArray := by rw [hcs]
 rw [hcsA]
 obtain ⟨zs, hzs⟩ : ∃ zs : List Value, zs = Zq := ⟨_, rfl⟩
 have hzl : Hid (zs.length = 16) := Hi (by rw [hzs]; rfl)
 have hwz : Hid (a02 (fun _ => False) w ((w.alloc (.cells cs.toArray 40)).alloc (.cells Zp 40))) := Hi (((a02.refl _ _).alloc _).alloc _)
 have hBB : Hid (a06 ((w.alloc (.cells cs.toArray 40)).alloc (.cells Zp 40)) w.heap.size 40 cs) := Hi ((a06.new w _ _).alloc _)
 have hRR : Hid (a06 ((w.alloc (.cells cs.toArray 40)).alloc (.cells Zp 40)) (w.heap.size + 1) 40 zs) := Hi (by
  rw [hzs]
  have := a06.new (w.alloc (.cells cs.toArray 40)) 40 Zq
  rw [show (w.alloc (.cells cs.toArray 40)).heap.size = w.heap.size + 1 by simp] at this
  exact this)
 have hsz0 : Hid (w.heap.size + 1 < ((w.alloc (.cells cs.toArray 40)).alloc (.cells Zp 40)).heap.size) := Hi (by simp)
 have hcs' := Hi hcs
 clear hcs hcsA hzs
 go_enter Try.func31, Try.ntmps31
 go_upto_region 1 with fail
 generalize (w.alloc (.cells cs.toArray 40)).alloc (.cells Zp 40) = w0 at hwz hBB hRR hsz0 ⊢
 have b0 := hBB.out.cell 0 (.int .i64 type) (by rw [hcs'.out]; rfl)
 have d1 : (type == 1) = false := by rw [beq_eq_false_iff_ne]; exact t1
 have d2 : (type == 2) = false := by rw [beq_eq_false_iff_ne]; exact t2
 have d3 : (type == 3) = false := by rw [beq_eq_false_iff_ne]; exact t3
 have d4 : (type == 4) = false := by rw [beq_eq_false_iff_ne]; exact t4
 have d5 : (type == 5) = false := by rw [beq_eq_false_iff_ne]; exact t5
 have hclr : True := trivial
 have hB3 : Hid (a06 w0 w.heap.size 40 (Pa' type router area S 0 0 0 0 0 0 Sn 0 0 Sn Sn Sn)) := Hi (by rw [← hcs'.out]; exact hBB.out)
 have hR3 := hRR
 have hk3 := hwz
 go_wp2_with (first | ((with_reducible refine a09 65 ?_); go_must (refine wpList_load_mid rfl 40 (.tmp 2) rfl w.heap.size 0 rfl (Pa' type router area S 0 0 0 0 0 0 Sn 0 0 Sn Sn Sn) _ (a06.rng hB3.out rfl) Try.underlying40 rfl a0p ?_)) | ((with_reducible refine a08 4 ?_); go_must (refine a05 rfl 40 (.tmp 4) (.tmp 65) rfl (w.heap.size + 1) (Pa type router area S 0 0 0 0 0 0 Sn 0 0 Sn Sn Sn) rfl rfl (a06.there hR3.out 0 16 (by rw [hzl.out]; exact Nat.le_refl 16)) a0p (a0s _ _ _ _ _ _ _ _ _ _ _ _ _ _ _ _ (a03 _ _ _) (a03 _ _ _) (a03 _ _ _) (a03 _ _ _)) ?_; intro w9 hr9 hs9)))
 refine bodyPost_ret (v := .tuple #[.agg (Pa type router area S 0 0 0 0 0 0 Sn 0 0 Sn Sn Sn), .int .i64 0]) (a0g Try.results31 _ _ (w.heap.size + 1) (Pa' type router area S 0 0 0 0 0 0 Sn 0 0 Sn Sn Sn) _ rfl hr9.out Try.underlying40 rfl a0p) rfl ⟨⟨_, rfl, ?_⟩, hk3.out.trans' hs9.out (fun i e => .inr (by omega))⟩
 refine b0f.mk rfl rfl rfl rfl (by rw [hS.out]; rfl) (a0u.nil _) (e02 _) (c0s _) (d0n.nil _ _) (b0s.nil _) (b0s.nil _) (b0s.nil _)
set_option maxRecDepth 100000 in
set_option maxHeartbeats 8000000 in
theorem q01 (router area : Nat) (auth : List UInt8) (S : ByteArray) (hS : Hid (S = ⟨auth.toArray⟩)) (p : Option Addr) (c : Nat) (x : List UInt8) (hx : x.length ≤ 1000000) (w : World) (h : Hid (a0a w (.slice p x.length c) x)) (hs : x.length < 20) :
 Calls Try.prog 31 #[.agg (Pa 1 router area S 0 0 0 0 0 0 Sn 0 0 Sn Sn Sn), .slice p x.length c] w (d0w (e03 1 router area auth) 0 w) := by
 obtain ⟨cs, hcs⟩ : ∃ cs : List Value, cs = (Pa' 1 router area S 0 0 0 0 0 0 Sn 0 0 Sn Sn Sn) := ⟨_, rfl⟩
 have hcsA : ((Pa 1 router area S 0 0 0 0 0 0 Sn 0 0 Sn Sn Sn) : Array Value) = cs.toArray := by rw [hcs]
 rw [hcsA]
 obtain ⟨zs, hzs⟩ : ∃ zs : List Value, zs = Zq := ⟨_, rfl⟩
 have hzl : Hid (zs.length = 16) := Hi (by rw [hzs]; rfl)
 have hwz : Hid (a02 (fun _ => False) w ((w.alloc (.cells cs.toArray 40)).alloc (.cells Zp 40))) := Hi (((a02.refl _ _).alloc _).alloc _)
 have hBB : Hid (a06 ((w.alloc (.cells cs.toArray 40)).alloc (.cells Zp 40)) w.heap.size 40 cs) := Hi ((a06.new w _ _).alloc _)
 have hRR : Hid (a06 ((w.alloc (.cells cs.toArray 40)).alloc (.cells Zp 40)) (w.heap.size + 1) 40 zs) := Hi (by
  rw [hzs]
  have := a06.new (w.alloc (.cells cs.toArray 40)) 40 Zq
  rw [show (w.alloc (.cells cs.toArray 40)).heap.size = w.heap.size + 1 by simp] at this
  exact this)
 have hsz0 : Hid (w.heap.size + 1 < ((w.alloc (.cells cs.toArray 40)).alloc (.cells Zp 40)).heap.size) := Hi (by simp)
 have hcs' := Hi hcs
 clear hcs hcsA hzs
 go_enter Try.func31, Try.ntmps31
 go_upto_region 1 with fail
 generalize (w.alloc (.cells cs.toArray 40)).alloc (.cells Zp 40) = w0 at hwz hBB hRR hsz0 ⊢
 have b0 := hBB.out.cell 0 (.int .i64 1) (by rw [hcs'.out]; rfl)
 have hclr : True := trivial
 have hB3 : Hid (a06 w0 w.heap.size 40 (Pa' 1 router area S 0 0 0 0 0 0 Sn 0 0 Sn Sn Sn)) := Hi (by rw [← hcs'.out]; exact hBB.out)
 have hR3 := hRR
 have hk3 := hwz
 go_wp2_with (first | ((with_reducible refine a09 65 ?_); go_must (refine wpList_load_mid rfl 40 (.tmp 2) rfl w.heap.size 0 rfl (Pa' 1 router area S 0 0 0 0 0 0 Sn 0 0 Sn Sn Sn) _ (a06.rng hB3.out rfl) Try.underlying40 rfl a0p ?_)) | ((with_reducible refine a08 4 ?_); go_must (refine a05 rfl 40 (.tmp 4) (.tmp 65) rfl (w.heap.size + 1) (Pa 1 router area S 0 0 0 0 0 0 Sn 0 0 Sn Sn Sn) rfl rfl (a06.there hR3.out 0 16 (by rw [hzl.out]; exact Nat.le_refl 16)) a0p (a0s _ _ _ _ _ _ _ _ _ _ _ _ _ _ _ _ (a03 _ _ _) (a03 _ _ _) (a03 _ _ _) (a03 _ _ _)) ?_; intro w9 hr9 hs9)))
 refine bodyPost_ret (v := .tuple #[.agg (Pa 1 router area S 0 0 0 0 0 0 Sn 0 0 Sn Sn Sn), .int .i64 0]) (a0g Try.results31 _ _ (w.heap.size + 1) (Pa' 1 router area S 0 0 0 0 0 0 Sn 0 0 Sn Sn Sn) _ rfl hr9.out Try.underlying40 rfl a0p) rfl ⟨⟨_, rfl, ?_⟩, hk3.out.trans' hs9.out (fun i e => .inr (by omega))⟩
 refine b0f.mk rfl rfl rfl rfl (by rw [hS.out]; rfl) (a0u.nil _) (e02 _) (c0s _) (d0n.nil _ _) (b0s.nil _) (b0s.nil _) (b0s.nil _)
set_option maxRecDepth 100000 in
set_option maxHeartbeats 8000000 in
theorem p0z (router area : Nat) (auth : List UInt8) (S : ByteArray) (hS : Hid (S = ⟨auth.toArray⟩)) (p : Option Addr) (c : Nat) (x : List UInt8) (hx : x.length ≤ 1000000) (w : World) (h : Hid (a0a w (.slice p x.length c) x)) (hs : x.length < 8) :
 Calls Try.prog 31 #[.agg (Pa 2 router area S 0 0 0 0 0 0 Sn 0 0 Sn Sn Sn), .slice p x.length c] w (d0w (e03 2 router area auth) 0 w) := by
 obtain ⟨cs, hcs⟩ : ∃ cs : List Value, cs = (Pa' 2 router area S 0 0 0 0 0 0 Sn 0 0 Sn Sn Sn) := ⟨_, rfl⟩
 have hcsA : ((Pa 2 router area S 0 0 0 0 0 0 Sn 0 0 Sn Sn Sn) : Array Value) = cs.toArray := by rw [hcs]
 rw [hcsA]
 obtain ⟨zs, hzs⟩ : ∃ zs : List Value, zs = Zq := ⟨_, rfl⟩
 have hzl : Hid (zs.length = 16) := Hi (by rw [hzs]; rfl)
 have hwz : Hid (a02 (fun _ => False) w ((w.alloc (.cells cs.toArray 40)).alloc (.cells Zp 40))) := Hi (((a02.refl _ _).alloc _).alloc _)
 have hBB : Hid (a06 ((w.alloc (.cells cs.toArray 40)).alloc (.cells Zp 40)) w.heap.size 40 cs) := Hi ((a06.new w _ _).alloc _)
 have hRR : Hid (a06 ((w.alloc (.cells cs.toArray 40)).alloc (.cells Zp 40)) (w.heap.size + 1) 40 zs) := Hi (by
  rw [hzs]
  have := a06.new (w.alloc (.cells cs.toArray 40)) 40 Zq
  rw [show (w.alloc (.cells cs.toArray 40)).heap.size = w.heap.size + 1 by simp] at this
  exact this)
 have hsz0 : Hid (w.heap.size + 1 < ((w.alloc (.cells cs.toArray 40)).alloc (.cells Zp 40)).heap.size) := Hi (by simp)
 have hcs' := Hi hcs
 clear hcs hcsA hzs
 go_enter Try.func31, Try.ntmps31
 go_upto_region 1 with fail
 generalize (w.alloc (.cells cs.toArray 40)).alloc (.cells Zp 40) = w0 at hwz hBB hRR hsz0 ⊢
 have b0 := hBB.out.cell 0 (.int .i64 2) (by rw [hcs'.out]; rfl)
 have hclr : True := trivial
 have hB3 : Hid (a06 w0 w.heap.size 40 (Pa' 2 router area S 0 0 0 0 0 0 Sn 0 0 Sn Sn Sn)) := Hi (by rw [← hcs'.out]; exact hBB.out)
 have hR3 := hRR
 have hk3 := hwz
 go_wp2_with (first | ((with_reducible refine a09 65 ?_); go_must (refine wpList_load_mid rfl 40 (.tmp 2) rfl w.heap.size 0 rfl (Pa' 2 router area S 0 0 0 0 0 0 Sn 0 0 Sn Sn Sn) _ (a06.rng hB3.out rfl) Try.underlying40 rfl a0p ?_)) | ((with_reducible refine a08 4 ?_); go_must (refine a05 rfl 40 (.tmp 4) (.tmp 65) rfl (w.heap.size + 1) (Pa 2 router area S 0 0 0 0 0 0 Sn 0 0 Sn Sn Sn) rfl rfl (a06.there hR3.out 0 16 (by rw [hzl.out]; exact Nat.le_refl 16)) a0p (a0s _ _ _ _ _ _ _ _ _ _ _ _ _ _ _ _ (a03 _ _ _) (a03 _ _ _) (a03 _ _ _) (a03 _ _ _)) ?_; intro w9 hr9 hs9)))
 refine bodyPost_ret (v := .tuple #[.agg (Pa 2 router area S 0 0 0 0 0 0 Sn 0 0 Sn Sn Sn), .int .i64 0]) (a0g Try.results31 _ _ (w.heap.size + 1) (Pa' 2 router area S 0 0 0 0 0 0 Sn 0 0 Sn Sn Sn) _ rfl hr9.out Try.underlying40 rfl a0p) rfl ⟨⟨_, rfl, ?_⟩, hk3.out.trans' hs9.out (fun i e => .inr (by omega))⟩
 refine b0f.mk rfl rfl rfl rfl (by rw [hS.out]; rfl) (a0u.nil _) (e02 _) (c0s _) (d0n.nil _ _) (b0s.nil _) (b0s.nil _) (b0s.nil _)
set_option maxRecDepth 100000 in
set_option maxHeartbeats 8000000 in
theorem pkHear_3 (router area : Nat) (auth : List UInt8) (S : ByteArray) (hS : Hid (S = ⟨auth.toArray⟩)) (p : Option Addr) (c : Nat) (x : List UInt8) (hx : x.length ≤ 1000000) (w : World) (h : Hid (a0a w (.slice p x.length c) x)) :
 Calls Try.prog 31 #[.agg (Pa 3 router area S 0 0 0 0 0 0 Sn 0 0 Sn Sn Sn), .slice p x.length c] w (d0w ⟨3, router, area, auth, 0, 0, 0, 0, 0, 0, [], 0, 0, [], e08 x (x.length / 12), []⟩ 0 w) := by
 obtain ⟨cs, hcs⟩ : ∃ cs : List Value, cs = (Pa' 3 router area S 0 0 0 0 0 0 Sn 0 0 Sn Sn Sn) := ⟨_, rfl⟩
 have hcsA : ((Pa 3 router area S 0 0 0 0 0 0 Sn 0 0 Sn Sn Sn) : Array Value) = cs.toArray := by rw [hcs]
 rw [hcsA]
 obtain ⟨zs, hzs⟩ : ∃ zs : List Value, zs = Zq := ⟨_, rfl⟩
 have hzl : Hid (zs.length = 16) := Hi (by rw [hzs]; rfl)
 have hwz : Hid (a02 (fun _ => False) w ((w.alloc (.cells cs.toArray 40)).alloc (.cells Zp 40))) := Hi (((a02.refl _ _).alloc _).alloc _)
 have hBB : Hid (a06 ((w.alloc (.cells cs.toArray 40)).alloc (.cells Zp 40)) w.heap.size 40 cs) := Hi ((a06.new w _ _).alloc _)
 have hRR : Hid (a06 ((w.alloc (.cells cs.toArray 40)).alloc (.cells Zp 40)) (w.heap.size + 1) 40 zs) := Hi (by
  rw [hzs]
  have := a06.new (w.alloc (.cells cs.toArray 40)) 40 Zq
  rw [show (w.alloc (.cells cs.toArray 40)).heap.size = w.heap.size + 1 by simp] at this
  exact this)
 have hsz0 : Hid (w.heap.size + 1 < ((w.alloc (.cells cs.toArray 40)).alloc (.cells Zp 40)).heap.size) := Hi (by simp)
 have hcs' := Hi hcs
 clear hcs hcsA hzs
 go_enter Try.func31, Try.ntmps31
 go_upto_region 1 with fail
 generalize (w.alloc (.cells cs.toArray 40)).alloc (.cells Zp 40) = w0 at hwz hBB hRR hsz0 ⊢
 have b0 := hBB.out.cell 0 (.int .i64 3) (by rw [hcs'.out]; rfl)
 go_wp2_with fail
 refine (j0v p c x hx _ (Hi (h.out.keep hwz.out))).mono ?_
 rintro e w2 ⟨q, d, rfl, hO, k2⟩
 have hB2 := Hi (hBB.out.keep k2 id)
 have hR2 := Hi (hRR.out.keep k2 id)
 have hk2 := Hi (hwz.out.trans k2)
 have hO2 := Hi hO
 have bb := hB2.out.cell 14 (.slice none 0 0) (by rw [hcs'.out]; rfl)
 have fb := hB2.out.frozen 14
 have hs3 : Hid (a02 (fun i => i = w.heap.size) w2 (w2.setCell ⟨w.heap.size, 14, none⟩ (.slice q (x.length / 12) d))) := Hi ((a02.refl (fun i => i = w.heap.size) _).setCell (p := ⟨w.heap.size, 14, none⟩) (.inl rfl) _)
 have hB3 : Hid (a06 (w2.setCell ⟨w.heap.size, 14, none⟩ (.slice q (x.length / 12) d)) w.heap.size 40 (Pa' 3 router area S 0 0 0 0 0 0 Sn 0 0 Sn (.slice q (x.length / 12) d) Sn)) := Hi (by
  have := hB2.out.set 14 (.slice q (x.length / 12) d)
  rw [hcs'.out] at this
  exact this)
 clear hO k2 b0
 go_upto_region 12 with fail
 generalize w2.setCell ⟨w.heap.size, 14, none⟩ (.slice q (x.length / 12) d) = w3 at hs3 hB3 ⊢
 have hR3 := Hi (hR2.out.keep hs3.out (by omega))
 have hk3 := Hi (hk2.out.trans' hs3.out (fun i e => .inr (by omega)))
 have hN3 := Hi (a0q.keepF (hO2.out.at c0o) hs3.out (fun _ i e => by have h1 := hO2.out.2.1 i e; have h2 := hsz0.out; omega))
 have hN3f : Hid (∀ i, (Value.slice q (x.length / 12) d).ownBlock = some i → w.heap.size + 2 ≤ i) := Hi (fun i e => by have h1 := hO2.out.2.1 i e; have h2 := hsz0.out; omega)
 clear hs3 hO2 hB2 hR2 hk2 bb fb
 go_wp2_with (first | ((with_reducible refine a09 65 ?_); go_must (refine wpList_load_mid rfl 40 (.tmp 2) rfl w.heap.size 0 rfl (Pa' 3 router area S 0 0 0 0 0 0 Sn 0 0 Sn (.slice q (x.length / 12) d) Sn) _ (a06.rng hB3.out rfl) Try.underlying40 rfl a0p ?_)) | ((with_reducible refine a08 4 ?_); go_must (refine a05 rfl 40 (.tmp 4) (.tmp 65) rfl (w.heap.size + 1) (Pa 3 router area S 0 0 0 0 0 0 Sn 0 0 Sn (.slice q (x.length / 12) d) Sn) rfl rfl (a06.there hR3.out 0 16 (by rw [hzl.out]; exact Nat.le_refl 16)) a0p (a0s _ _ _ _ _ _ _ _ _ _ _ _ _ _ _ _ (a03 _ _ _) (a03 _ _ _) (a03 _ _ _) (a03 _ _ _)) ?_; intro w9 hr9 hs9)))
 refine bodyPost_ret (v := .tuple #[.agg (Pa 3 router area S 0 0 0 0 0 0 Sn 0 0 Sn (.slice q (x.length / 12) d) Sn), .int .i64 0]) (a0g Try.results31 _ _ (w.heap.size + 1) (Pa' 3 router area S 0 0 0 0 0 0 Sn 0 0 Sn (.slice q (x.length / 12) d) Sn) _ rfl hr9.out Try.underlying40 rfl a0p) rfl ⟨⟨_, rfl, ?_⟩, hk3.out.trans' hs9.out (fun i e => .inr (by omega))⟩
 refine b0f.mk rfl rfl (f05 _ _) rfl (by rw [hS.out]; rfl) (a0u.nil _) (e02 _) (a0q.keepF hN3.out hs9.out (fun _ i e => by have := hN3f.out i e; omega)) (d0n.nil _ _) (b0s.nil _) (b0s.nil _) (b0s.of (fun i e => by have := hN3f.out i e; omega))
set_option maxRecDepth 100000 in
set_option maxHeartbeats 8000000 in
theorem pkHear_5 (router area : Nat) (auth : List UInt8) (S : ByteArray) (hS : Hid (S = ⟨auth.toArray⟩)) (p : Option Addr) (c : Nat) (x : List UInt8) (hx : x.length ≤ 1000000) (w : World) (h : Hid (a0a w (.slice p x.length c) x)) :
 Calls Try.prog 31 #[.agg (Pa 5 router area S 0 0 0 0 0 0 Sn 0 0 Sn Sn Sn), .slice p x.length c] w (d0w ⟨5, router, area, auth, 0, 0, 0, 0, 0, 0, [], 0, 0, d0j x (x.length / 20), [], []⟩ 0 w) := by
 obtain ⟨cs, hcs⟩ : ∃ cs : List Value, cs = (Pa' 5 router area S 0 0 0 0 0 0 Sn 0 0 Sn Sn Sn) := ⟨_, rfl⟩
 have hcsA : ((Pa 5 router area S 0 0 0 0 0 0 Sn 0 0 Sn Sn Sn) : Array Value) = cs.toArray := by rw [hcs]
 rw [hcsA]
 obtain ⟨zs, hzs⟩ : ∃ zs : List Value, zs = Zq := ⟨_, rfl⟩
 have hzl : Hid (zs.length = 16) := Hi (by rw [hzs]; rfl)
 have hwz : Hid (a02 (fun _ => False) w ((w.alloc (.cells cs.toArray 40)).alloc (.cells Zp 40))) := Hi (((a02.refl _ _).alloc _).alloc _)
 have hBB : Hid (a06 ((w.alloc (.cells cs.toArray 40)).alloc (.cells Zp 40)) w.heap.size 40 cs) := Hi ((a06.new w _ _).alloc _)
 have hRR : Hid (a06 ((w.alloc (.cells cs.toArray 40)).alloc (.cells Zp 40)) (w.heap.size + 1) 40 zs) := Hi (by
  rw [hzs]
  have := a06.new (w.alloc (.cells cs.toArray 40)) 40 Zq
  rw [show (w.alloc (.cells cs.toArray 40)).heap.size = w.heap.size + 1 by simp] at this
  exact this)
 have hsz0 : Hid (w.heap.size + 1 < ((w.alloc (.cells cs.toArray 40)).alloc (.cells Zp 40)).heap.size) := Hi (by simp)
 have hcs' := Hi hcs
 clear hcs hcsA hzs
 go_enter Try.func31, Try.ntmps31
 go_upto_region 1 with fail
 generalize (w.alloc (.cells cs.toArray 40)).alloc (.cells Zp 40) = w0 at hwz hBB hRR hsz0 ⊢
 have b0 := hBB.out.cell 0 (.int .i64 5) (by rw [hcs'.out]; rfl)
 go_wp2_with fail
 refine (f0w p c x hx _ (Hi (h.out.keep hwz.out))).mono ?_
 rintro e w2 ⟨q, d, rfl, hO, k2⟩
 have hB2 := Hi (hBB.out.keep k2 id)
 have hR2 := Hi (hRR.out.keep k2 id)
 have hk2 := Hi (hwz.out.trans k2)
 have hO2 := Hi hO
 have bb := hB2.out.cell 13 (.slice none 0 0) (by rw [hcs'.out]; rfl)
 have fb := hB2.out.frozen 13
 have hs3 : Hid (a02 (fun i => i = w.heap.size) w2 (w2.setCell ⟨w.heap.size, 13, none⟩ (.slice q (x.length / 20) d))) := Hi ((a02.refl (fun i => i = w.heap.size) _).setCell (p := ⟨w.heap.size, 13, none⟩) (.inl rfl) _)
 have hB3 : Hid (a06 (w2.setCell ⟨w.heap.size, 13, none⟩ (.slice q (x.length / 20) d)) w.heap.size 40 (Pa' 5 router area S 0 0 0 0 0 0 Sn 0 0 (.slice q (x.length / 20) d) Sn Sn)) := Hi (by
  have := hB2.out.set 13 (.slice q (x.length / 20) d)
  rw [hcs'.out] at this
  exact this)
 clear hO k2 b0
 go_upto_region 12 with fail
 generalize w2.setCell ⟨w.heap.size, 13, none⟩ (.slice q (x.length / 20) d) = w3 at hs3 hB3 ⊢
 have hR3 := Hi (hR2.out.keep hs3.out (by omega))
 have hk3 := Hi (hk2.out.trans' hs3.out (fun i e => .inr (by omega)))
 have hN3 := Hi (a0q.keepF (hO2.out.at b0r) hs3.out (fun _ i e => by have h1 := hO2.out.2.1 i e; have h2 := hsz0.out; omega))
 have hN3f : Hid (∀ i, (Value.slice q (x.length / 20) d).ownBlock = some i → w.heap.size + 2 ≤ i) := Hi (fun i e => by have h1 := hO2.out.2.1 i e; have h2 := hsz0.out; omega)
 clear hs3 hO2 hB2 hR2 hk2 bb fb
 go_wp2_with (first | ((with_reducible refine a09 65 ?_); go_must (refine wpList_load_mid rfl 40 (.tmp 2) rfl w.heap.size 0 rfl (Pa' 5 router area S 0 0 0 0 0 0 Sn 0 0 (.slice q (x.length / 20) d) Sn Sn) _ (a06.rng hB3.out rfl) Try.underlying40 rfl a0p ?_)) | ((with_reducible refine a08 4 ?_); go_must (refine a05 rfl 40 (.tmp 4) (.tmp 65) rfl (w.heap.size + 1) (Pa 5 router area S 0 0 0 0 0 0 Sn 0 0 (.slice q (x.length / 20) d) Sn Sn) rfl rfl (a06.there hR3.out 0 16 (by rw [hzl.out]; exact Nat.le_refl 16)) a0p (a0s _ _ _ _ _ _ _ _ _ _ _ _ _ _ _ _ (a03 _ _ _) (a03 _ _ _) (a03 _ _ _) (a03 _ _ _)) ?_; intro w9 hr9 hs9)))
 refine bodyPost_ret (v := .tuple #[.agg (Pa 5 router area S 0 0 0 0 0 0 Sn 0 0 (.slice q (x.length / 20) d) Sn Sn), .int .i64 0]) (a0g Try.results31 _ _ (w.heap.size + 1) (Pa' 5 router area S 0 0 0 0 0 0 Sn 0 0 (.slice q (x.length / 20) d) Sn Sn) _ rfl hr9.out Try.underlying40 rfl a0p) rfl ⟨⟨_, rfl, ?_⟩, hk3.out.trans' hs9.out (fun i e => .inr (by omega))⟩
 refine b0f.mk rfl (c0v _ _) rfl rfl (by rw [hS.out]; rfl) (a0u.nil _) (a0q.keepF hN3.out hs9.out (fun _ i e => by have := hN3f.out i e; omega)) (c0s _) (d0n.nil _ _) (b0s.nil _) (b0s.of (fun i e => by have := hN3f.out i e; omega)) (b0s.nil _)
set_option maxRecDepth 100000 in
set_option maxHeartbeats 8000000 in
theorem pkHear_4 (ds : List LsaD) (er : Int) (router area : Nat) (auth : List UInt8) (S : ByteArray) (hS : Hid (S = ⟨auth.toArray⟩)) (p : Option Addr) (c : Nat) (x : List UInt8) (hx : x.length ≤ 1000000) (w : World) (h : Hid (a0a w (.slice p x.length c) x)) (hE : Hid (c0t x = (ds, er))) :
 Calls Try.prog 31 #[.agg (Pa 4 router area S 0 0 0 0 0 0 Sn 0 0 Sn Sn Sn), .slice p x.length c] w (d0w ⟨4, router, area, auth, 0, 0, 0, 0, 0, 0, [], 0, 0, [], [], ds⟩ er w) := by
 obtain ⟨cs, hcs⟩ : ∃ cs : List Value, cs = (Pa' 4 router area S 0 0 0 0 0 0 Sn 0 0 Sn Sn Sn) := ⟨_, rfl⟩
 have hcsA : ((Pa 4 router area S 0 0 0 0 0 0 Sn 0 0 Sn Sn Sn) : Array Value) = cs.toArray := by rw [hcs]
 rw [hcsA]
 obtain ⟨zs, hzs⟩ : ∃ zs : List Value, zs = Zq := ⟨_, rfl⟩
 have hzl : Hid (zs.length = 16) := Hi (by rw [hzs]; rfl)
 have hwz : Hid (a02 (fun _ => False) w ((w.alloc (.cells cs.toArray 40)).alloc (.cells Zp 40))) := Hi (((a02.refl _ _).alloc _).alloc _)
 have hBB : Hid (a06 ((w.alloc (.cells cs.toArray 40)).alloc (.cells Zp 40)) w.heap.size 40 cs) := Hi ((a06.new w _ _).alloc _)
 have hRR : Hid (a06 ((w.alloc (.cells cs.toArray 40)).alloc (.cells Zp 40)) (w.heap.size + 1) 40 zs) := Hi (by
  rw [hzs]
  have := a06.new (w.alloc (.cells cs.toArray 40)) 40 Zq
  rw [show (w.alloc (.cells cs.toArray 40)).heap.size = w.heap.size + 1 by simp] at this
  exact this)
 have hsz0 : Hid (w.heap.size + 1 < ((w.alloc (.cells cs.toArray 40)).alloc (.cells Zp 40)).heap.size) := Hi (by simp)
 have hcs' := Hi hcs
 clear hcs hcsA hzs
 go_enter Try.func31, Try.ntmps31
 go_upto_region 1 with fail
 generalize (w.alloc (.cells cs.toArray 40)).alloc (.cells Zp 40) = w0 at hwz hBB hRR hsz0 ⊢
 have b0 := hBB.out.cell 0 (.int .i64 4) (by rw [hcs'.out]; rfl)
 go_wp2_with fail
 refine (j0u p c x hx (ds, er) _ (Hi (h.out.keep hwz.out)) hE).mono ?_
 rintro e w2 ⟨⟨q, d, rfl, hO⟩, k2⟩
 have hB2 := Hi (hBB.out.keep k2 id)
 have hR2 := Hi (hRR.out.keep k2 id)
 have hk2 := Hi (hwz.out.trans k2)
 have hO2 := Hi hO
 have bb := hB2.out.cell 15 (.slice none 0 0) (by rw [hcs'.out]; rfl)
 have fb := hB2.out.frozen 15
 have hs3 : Hid (a02 (fun i => i = w.heap.size) w2 (w2.setCell ⟨w.heap.size, 15, none⟩ (.slice q ds.length d))) := Hi ((a02.refl (fun i => i = w.heap.size) _).setCell (p := ⟨w.heap.size, 15, none⟩) (.inl rfl) _)
 have hB3 : Hid (a06 (w2.setCell ⟨w.heap.size, 15, none⟩ (.slice q ds.length d)) w.heap.size 40 (Pa' 4 router area S 0 0 0 0 0 0 Sn 0 0 Sn Sn (.slice q ds.length d))) := Hi (by
  have := hB2.out.set 15 (.slice q ds.length d)
  rw [hcs'.out] at this
  exact this)
 clear hO k2 b0
 go_upto_region 12 with fail
 generalize w2.setCell ⟨w.heap.size, 15, none⟩ (.slice q ds.length d) = w3 at hs3 hB3 ⊢
 have hR3 := Hi (hR2.out.keep hs3.out (by omega))
 have hk3 := Hi (hk2.out.trans' hs3.out (fun i e => .inr (by omega)))
 have hN3 := Hi (hO2.out.keepF hs3.out (fun i h1 e => by have h2 := hsz0.out; omega))
 clear hs3 hO2 hB2 hR2 hk2 bb fb
 go_wp2_with (first | ((with_reducible refine a09 65 ?_); go_must (refine wpList_load_mid rfl 40 (.tmp 2) rfl w.heap.size 0 rfl (Pa' 4 router area S 0 0 0 0 0 0 Sn 0 0 Sn Sn (.slice q ds.length d)) _ (a06.rng hB3.out rfl) Try.underlying40 rfl a0p ?_)) | ((with_reducible refine a08 4 ?_); go_must (refine a05 rfl 40 (.tmp 4) (.tmp 65) rfl (w.heap.size + 1) (Pa 4 router area S 0 0 0 0 0 0 Sn 0 0 Sn Sn (.slice q ds.length d)) rfl rfl (a06.there hR3.out 0 16 (by rw [hzl.out]; exact Nat.le_refl 16)) a0p (a0s _ _ _ _ _ _ _ _ _ _ _ _ _ _ _ _ (a03 _ _ _) (a03 _ _ _) (a03 _ _ _) (a03 _ _ _)) ?_; intro w9 hr9 hs9)))
 refine bodyPost_ret (v := .tuple #[.agg (Pa 4 router area S 0 0 0 0 0 0 Sn 0 0 Sn Sn (.slice q ds.length d)), .int .i64 er]) (a0g Try.results31 _ _ (w.heap.size + 1) (Pa' 4 router area S 0 0 0 0 0 0 Sn 0 0 Sn Sn (.slice q ds.length d)) _ rfl hr9.out Try.underlying40 rfl a0p) rfl ⟨⟨_, rfl, ?_⟩, hk3.out.trans' hs9.out (fun i e => .inr (by omega))⟩
 refine b0f.mk rfl rfl rfl rfl (by rw [hS.out]; rfl) (a0u.nil _) (e02 _) (c0s _) ((hN3.out.keepF hs9.out (fun i h1 e => by have h2 := hsz0.out; omega)).older (by have h2 := hsz0.out; omega)) (b0s.nil _) (b0s.nil _) (b0s.nil _)
set_option maxRecDepth 100000 in
set_option maxHeartbeats 8000000 in
theorem pkHear_1 (mask interval dead priority dr bdr : Nat) (router area : Nat) (auth : List UInt8) (S : ByteArray) (hS : Hid (S = ⟨auth.toArray⟩)) (p : Option Addr) (c : Nat) (x : List UInt8) (hx : x.length ≤ 1000000) (w : World) (h : Hid (a0a w (.slice p x.length c) x)) (hs : 20 ≤ x.length) (hmask : Hid (a0d (sub x 0 4) = mask)) (hint : Hid (a0d (sub x 4 2) = interval)) (hpri : Hid ((x.getD 7 0).toNat = priority)) (hdead : Hid (a0d (sub x 8 4) = dead)) (hdr : Hid (a0d (sub x 12 4) = dr)) (hbdr : Hid (a0d (sub x 16 4) = bdr)) :
 Calls Try.prog 31 #[.agg (Pa 1 router area S 0 0 0 0 0 0 Sn 0 0 Sn Sn Sn), .slice p x.length c] w (d0w ⟨1, router, area, auth, mask, (interval : Int), (dead : Int), (priority : Int), dr, bdr, c09 (x.drop 20) ((x.length - 20) / 4), 0, 0, [], [], []⟩ 0 w) := by
 obtain ⟨cs, hcs⟩ : ∃ cs : List Value, cs = (Pa' 1 router area S 0 0 0 0 0 0 Sn 0 0 Sn Sn Sn) := ⟨_, rfl⟩
 have hcsA : ((Pa 1 router area S 0 0 0 0 0 0 Sn 0 0 Sn Sn Sn) : Array Value) = cs.toArray := by rw [hcs]
 rw [hcsA]
 obtain ⟨zs, hzs⟩ : ∃ zs : List Value, zs = Zq := ⟨_, rfl⟩
 have hzl : Hid (zs.length = 16) := Hi (by rw [hzs]; rfl)
 have hwz : Hid (a02 (fun _ => False) w ((w.alloc (.cells cs.toArray 40)).alloc (.cells Zp 40))) := Hi (((a02.refl _ _).alloc _).alloc _)
 have hBB : Hid (a06 ((w.alloc (.cells cs.toArray 40)).alloc (.cells Zp 40)) w.heap.size 40 cs) := Hi ((a06.new w _ _).alloc _)
 have hRR : Hid (a06 ((w.alloc (.cells cs.toArray 40)).alloc (.cells Zp 40)) (w.heap.size + 1) 40 zs) := Hi (by
  rw [hzs]
  have := a06.new (w.alloc (.cells cs.toArray 40)) 40 Zq
  rw [show (w.alloc (.cells cs.toArray 40)).heap.size = w.heap.size + 1 by simp] at this
  exact this)
 have hsz0 : Hid (w.heap.size + 1 < ((w.alloc (.cells cs.toArray 40)).alloc (.cells Zp 40)).heap.size) := Hi (by simp)
 have hcs' := Hi hcs
 clear hcs hcsA hzs
 go_enter Try.func31, Try.ntmps31
 go_upto_region 1 with fail
 generalize (w.alloc (.cells cs.toArray 40)).alloc (.cells Zp 40) = w0 at hwz hBB hRR hsz0 ⊢
 have b0 := hBB.out.cell 0 (.int .i64 1) (by rw [hcs'.out]; rfl)
 obtain ⟨g, o, rfl, hr, hc⟩ : ∃ g o, p = some ⟨g, o, none⟩ ∧ w.rangeAt g o (x.map bv) ∧ x.length ≤ c := by
  obtain ⟨p', c', e', -, hc', hb'⟩ := h.out
  injection e' with e1 e2 e3
  obtain ⟨g2, o2, e4, hr2⟩ := hb' (by omega)
  exact ⟨g2, o2, by rw [e1, e4], hr2, by omega⟩
 go_wp2_with fail
 refine (h0g g o x.length c x hs hx hc (Hi rfl) mask dr bdr interval dead priority _ (Hi (hwz.out.rangeAt hr id)) hmask hint hpri hdead hdr hbdr).mono ?_
 rintro e w2 ⟨q, d, rfl, hO, k2⟩
 have hB2 := Hi (hBB.out.keep k2 id)
 have hR2 := Hi (hRR.out.keep k2 id)
 have hk2 := Hi (hwz.out.trans k2)
 have hO2 := Hi hO
 clear hO k2 b0 hr
 go_upto_region 12 with ((with_reducible refine a08 18 ?_); go_must (refine h07 rfl 35 (.tmp 18) (.tmp 17) rfl w.heap.size 4 (Ga mask interval dead priority dr bdr (.slice q ((x.length - 20) / 4) d)) rfl rfl (hB2.out.there 4 7 (by rw [hcs'.out]; exact (show (11 : Nat) ≤ 16 by omega))) d0l (h0q _ _ _ _ _ _ _ (a03 _ _ _)) ?_; intro w3 hw3))
 have hs3 : Hid (a02 (fun i => i = w.heap.size) w2 w3) := Hi (by rw [hw3.out]; exact a02.setCells (F := fun i => i = w.heap.size) (.inl rfl) _ _ _ (a02.refl _ _))
 have hB3 : Hid (a06 w3 w.heap.size 40 (Pa' 1 router area S mask interval dead priority dr bdr (.slice q ((x.length - 20) / 4) d) 0 0 Sn Sn Sn)) := Hi (by
  have := ((((((hB2.out.set 4 (.int .u32 mask)).set 5 (.int .i64 interval)).set 6 (.int .i64 dead)).set 7 (.int .i64 priority)).set 8 (.int .u32 dr)).set 9 (.int .u32 bdr)).set 10 (.slice q ((x.length - 20) / 4) d)
  rw [hcs'.out] at this
  rw [hw3.out]
  exact this)
 clear hw3
 have hR3 := Hi (hR2.out.keep hs3.out (by omega))
 have hk3 := Hi (hk2.out.trans' hs3.out (fun i e => .inr (by omega)))
 have hN3 := Hi (hO2.out.at.keepF hs3.out (fun _ i e => by have h1 := hO2.out.2.1 i e; have h2 := hsz0.out; omega))
 have hN3f : Hid (∀ i, (Value.slice q ((x.length - 20) / 4) d).ownBlock = some i → w.heap.size + 2 ≤ i) := Hi (fun i e => by have h1 := hO2.out.2.1 i e; have h2 := hsz0.out; omega)
 clear hs3 hO2 hB2 hR2 hk2
 go_wp2_with (first | ((with_reducible refine a09 65 ?_); go_must (refine wpList_load_mid rfl 40 (.tmp 2) rfl w.heap.size 0 rfl (Pa' 1 router area S mask interval dead priority dr bdr (.slice q ((x.length - 20) / 4) d) 0 0 Sn Sn Sn) _ (a06.rng hB3.out rfl) Try.underlying40 rfl a0p ?_)) | ((with_reducible refine a08 4 ?_); go_must (refine a05 rfl 40 (.tmp 4) (.tmp 65) rfl (w.heap.size + 1) (Pa 1 router area S mask interval dead priority dr bdr (.slice q ((x.length - 20) / 4) d) 0 0 Sn Sn Sn) rfl rfl (a06.there hR3.out 0 16 (by rw [hzl.out]; exact Nat.le_refl 16)) a0p (a0s _ _ _ _ _ _ _ _ _ _ _ _ _ _ _ _ (a03 _ _ _) (a03 _ _ _) (a03 _ _ _) (a03 _ _ _)) ?_; intro w9 hr9 hs9)))
 refine bodyPost_ret (v := .tuple #[.agg (Pa 1 router area S mask interval dead priority dr bdr (.slice q ((x.length - 20) / 4) d) 0 0 Sn Sn Sn), .int .i64 0]) (a0g Try.results31 _ _ (w.heap.size + 1) (Pa' 1 router area S mask interval dead priority dr bdr (.slice q ((x.length - 20) / 4) d) 0 0 Sn Sn Sn) _ rfl hr9.out Try.underlying40 rfl a0p) rfl ⟨⟨_, rfl, ?_⟩, hk3.out.trans' hs9.out (fun i e => .inr (by omega))⟩
 refine b0f.mk (c06 _ _) rfl rfl rfl (by rw [hS.out]; rfl) (by exact hN3.out.keepF hs9.out (fun _ i e => by have := hN3f.out i e; omega)) (e02 _) (c0s _) (d0n.nil _ _) (b0s.of (fun i e => by have := hN3f.out i e; omega)) (b0s.nil _) (b0s.nil _)
set_option maxRecDepth 100000 in
set_option maxHeartbeats 8000000 in
theorem pkHear_2 (fl sq : Nat) (router area : Nat) (auth : List UInt8) (S : ByteArray) (hS : Hid (S = ⟨auth.toArray⟩)) (p : Option Addr) (c : Nat) (x : List UInt8) (hx : x.length ≤ 1000000) (w : World) (h : Hid (a0a w (.slice p x.length c) x)) (hs : 8 ≤ x.length) (hfl : Hid ((x.getD 3 0).toNat = fl)) (hsq : Hid (a0d (sub x 4 4) = sq)) :
 Calls Try.prog 31 #[.agg (Pa 2 router area S 0 0 0 0 0 0 Sn 0 0 Sn Sn Sn), .slice p x.length c] w (d0w ⟨2, router, area, auth, 0, 0, 0, 0, 0, 0, [], (fl : Int), sq, d0j (x.drop 8) ((x.length - 8) / 20), [], []⟩ 0 w) := by
 obtain ⟨cs, hcs⟩ : ∃ cs : List Value, cs = (Pa' 2 router area S 0 0 0 0 0 0 Sn 0 0 Sn Sn Sn) := ⟨_, rfl⟩
 have hcsA : ((Pa 2 router area S 0 0 0 0 0 0 Sn 0 0 Sn Sn Sn) : Array Value) = cs.toArray := by rw [hcs]
 rw [hcsA]
 obtain ⟨zs, hzs⟩ : ∃ zs : List Value, zs = Zq := ⟨_, rfl⟩
 have hzl : Hid (zs.length = 16) := Hi (by rw [hzs]; rfl)
 have hwz : Hid (a02 (fun _ => False) w ((w.alloc (.cells cs.toArray 40)).alloc (.cells Zp 40))) := Hi (((a02.refl _ _).alloc _).alloc _)
 have hBB : Hid (a06 ((w.alloc (.cells cs.toArray 40)).alloc (.cells Zp 40)) w.heap.size 40 cs) := Hi ((a06.new w _ _).alloc _)
 have hRR : Hid (a06 ((w.alloc (.cells cs.toArray 40)).alloc (.cells Zp 40)) (w.heap.size + 1) 40 zs) := Hi (by
  rw [hzs]
  have := a06.new (w.alloc (.cells cs.toArray 40)) 40 Zq
  rw [show (w.alloc (.cells cs.toArray 40)).heap.size = w.heap.size + 1 by simp] at this
  exact this)
 have hsz0 : Hid (w.heap.size + 1 < ((w.alloc (.cells cs.toArray 40)).alloc (.cells Zp 40)).heap.size) := Hi (by simp)
 have hcs' := Hi hcs
 clear hcs hcsA hzs
 go_enter Try.func31, Try.ntmps31
 go_upto_region 1 with fail
 generalize (w.alloc (.cells cs.toArray 40)).alloc (.cells Zp 40) = w0 at hwz hBB hRR hsz0 ⊢
 have b0 := hBB.out.cell 0 (.int .i64 2) (by rw [hcs'.out]; rfl)
 obtain ⟨g, o, rfl, hr, hc⟩ : ∃ g o, p = some ⟨g, o, none⟩ ∧ w.rangeAt g o (x.map bv) ∧ x.length ≤ c := by
  obtain ⟨p', c', e', -, hc', hb'⟩ := h.out
  injection e' with e1 e2 e3
  obtain ⟨g2, o2, e4, hr2⟩ := hb' (by omega)
  exact ⟨g2, o2, by rw [e1, e4], hr2, by omega⟩
 have hwd := Hi hwz.out.drew
 have hrd := hwd.out.rangeAt hr id
 have i3 : (3 : Int) < x.length := by omega
 have i8 : (8 : Int) ≤ c := by omega
 have i8x : (8 : Int) ≤ x.length := by omega
 have j4 : ¬ c = 4 := by omega
 obtain ⟨x3, hx3⟩ : ∃ y, x[3]'(by omega) = y := ⟨_, rfl⟩
 have l3 := x3.toNat_lt
 have hp3 : x3.toNat = fl := by rw [← hfl.out, List.getD_eq_getElem?_getD, List.getElem?_eq_getElem (by omega), hx3]; rfl
 have c3 := a0i hrd 3 (by omega)
 rw [hx3, hp3] at c3
 rw [hp3] at l3
 have v3 : IntKind.i64.wrap (fl : Int) = (fl : Int) := IntWalk.i64_in _ (by omega)
 have s4 : (sub x 4 4).length ≤ 4 := by rw [a0k (by omega)]; omega
 have k4 := Hi (a0c hrd hc 4 4 (by omega))
 have k8 := Hi (a0w hrd hc 8 (by omega))
 obtain ⟨pp, hpp⟩ : ∃ pp, (if c = 8 then some (⟨g, o, none⟩ : Addr) else some ⟨g, o + 8, none⟩) = pp := ⟨_, rfl⟩
 rw [hpp] at k8
 have hpp' := Hi hpp
 have hdl : (x.drop 8).length = x.length - 8 := by simp
 have hdl' := Hi hdl
 have hBd := Hi (hBB.out.keep ((a02.refl (fun _ => False) _).drew) id)
 have hRd := Hi (hRR.out.keep ((a02.refl (fun _ => False) _).drew) id)
 have hgB : Hid (g ≠ w.heap.size) := Hi (fun e => by
  have := World.block_lt_of_cell? _ _ (hr 0 (bv (x[0]'(by omega))) (by rw [List.getElem?_map, List.getElem?_eq_getElem (by omega)]; rfl)); simp only at this; omega)
 have c3' := Hi c3
 clear hr hrd hpp hdl hx3 hp3 hfl c3
 go_upto_region 5 with fail
 refine wp_region_noPanic ?_
 refine wp_region_held_drew (S := (fun W => W.cell? ⟨g, o + 3, none⟩ = some (.int .u8 fl))) (by kernel_rfl) (c3'.out) (fun hHeld => ?_)
 refine tk 0 rfl ?_
 refine tk 1 rfl ?_
 refine tkL 2 rfl (a04 (by rfl) 5 (.tmp 29) rfl g (o + 3) rfl _ (fun _ s => s) (fun w s => g05 w _ _ _ s)) ?_
 refine tk 3 rfl ?_
 refine tk 4 rfl ?_
 refine tk 5 rfl ?_
 refine tk 7 rfl ?_
 refine tk 8 rfl ?_
 refine tk 10 rfl ?_
 rw [hpp'.out]
 refine sL 6 rfl fun K hK => ?_
 go_simp
 (refine (b0b _ _ sq s4 _ k4 hsq).mono ?_; rintro e w' ⟨rfl, rfl⟩)
 go_wp2_with fail
 refine hK.out _ _ (hHeld) (fun hHeld => ?_)
 clear hK K
 try simp only [Act.put, sA, sZ, sS]
 refine sL 9 rfl fun K hK => ?_
 go_simp
 (refine (k0w _ (x.length - 8) (x.drop 8) hdl'.out (by omega) _ k8).mono ?_; rintro e w2 ⟨q, d, rfl, hO, k2⟩)
 go_wp2_with fail
 refine hK.out _ _ ((by rw [k2.cell (p := ⟨g, o + 3, none⟩) (World.block_lt_of_cell? _ _ hHeld) id]; exact hHeld)) (fun hHeld => ?_)
 clear hK K
 try simp only [Act.put, sA, sZ, sS]
 have hB2 := Hi (hBd.out.keep k2 id)
 have hR2 := Hi (hRd.out.keep k2 id)
 have hk2 := Hi (hwd.out.trans k2)
 have hO2 := Hi hO
 have b11 := hB2.out.cell 11 (.int .i64 0) (by rw [hcs'.out]; rfl)
 have f11 := hB2.out.frozen 11
 have b12 := hB2.out.cell 12 (.int .u32 0) (by rw [hcs'.out]; rfl)
 have f12 := hB2.out.frozen 12
 have b13 := hB2.out.cell 13 (.slice none 0 0) (by rw [hcs'.out]; rfl)
 have f13 := hB2.out.frozen 13
 have hs3 : Hid (a02 (fun i => i = w.heap.size) w2 (((w2.setCell ⟨w.heap.size, 11, none⟩ (.int .i64 fl)).setCell ⟨w.heap.size, 12, none⟩ (.int .u32 sq)).setCell ⟨w.heap.size, 13, none⟩ (.slice q ((x.length - 8) / 20) d))) := Hi ((((a02.refl (fun i => i = w.heap.size) _).setCell (p := ⟨w.heap.size, 11, none⟩) (.inl rfl) _).setCell (p := ⟨w.heap.size, 12, none⟩) (.inl rfl) _).setCell (p := ⟨w.heap.size, 13, none⟩) (.inl rfl) _)
 have hB3 : Hid (a06 (((w2.setCell ⟨w.heap.size, 11, none⟩ (.int .i64 fl)).setCell ⟨w.heap.size, 12, none⟩ (.int .u32 sq)).setCell ⟨w.heap.size, 13, none⟩ (.slice q ((x.length - 8) / 20) d)) w.heap.size 40 (Pa' 2 router area S 0 0 0 0 0 0 Sn fl sq (.slice q ((x.length - 8) / 20) d) Sn Sn)) := Hi (by
  have := ((hB2.out.set 11 (.int .i64 fl)).set 12 (.int .u32 sq)).set 13 (.slice q ((x.length - 8) / 20) d)
  rw [hcs'.out] at this
  exact this)
 clear hO b0 i3 i8 i8x j4 v3
 refine sL 11 rfl fun K hK => ?_
 go_simp
 refine hK.out _ _ (j0o hHeld hgB.out) (fun hHeld => ?_)
 clear hK K
 try simp only [Act.put, sA, sZ, sS]
 refine tk 12 rfl ?_
 refine sL 13 rfl fun K hK => ?_
 go_simp
 refine hK.out _ _ (j0o hHeld hgB.out) (fun hHeld => ?_)
 clear hK K
 try simp only [Act.put, sA, sZ, sS]
 refine tk 14 rfl ?_
 refine sL 15 rfl fun K hK => ?_
 go_simp
 refine hK.out _ _ (j0o hHeld hgB.out) (fun hHeld => ?_)
 clear hK K
 try simp only [Act.put, sA, sZ, sS]
 refine wpAnyH_done (by kernel_rfl) (NoPanic.normal ?_) _
 clear b11 f11 b12 f12 b13 f13 hHeld
 generalize (((w2.setCell ⟨w.heap.size, 11, none⟩ (.int .i64 fl)).setCell ⟨w.heap.size, 12, none⟩ (.int .u32 sq)).setCell ⟨w.heap.size, 13, none⟩ (.slice q ((x.length - 8) / 20) d)) = w3 at hs3 hB3 ⊢
 have hR3 := Hi (hR2.out.keep hs3.out (by omega))
 have hk3 := Hi (hk2.out.trans' hs3.out (fun i e => .inr (by omega)))
 have hN3 := Hi (a0q.keepF (hO2.out.at b0r) hs3.out (fun _ i e => by have h1 : w0.drew.heap.size ≤ i := hO2.out.2.1 i e; have h2 : w.heap.size + 1 < w0.drew.heap.size := hsz0.out; omega))
 have hN3f : Hid (∀ i, (Value.slice q ((x.length - 8) / 20) d).ownBlock = some i → w.heap.size + 2 ≤ i) := Hi (fun i e => by have h1 : w0.drew.heap.size ≤ i := hO2.out.2.1 i e; have h2 : w.heap.size + 1 < w0.drew.heap.size := hsz0.out; omega)
 clear hs3 hO2 hB2 hR2 hk2
 go_wp2_with (first | ((with_reducible refine a09 65 ?_); go_must (refine wpList_load_mid rfl 40 (.tmp 2) rfl w.heap.size 0 rfl (Pa' 2 router area S 0 0 0 0 0 0 Sn fl sq (.slice q ((x.length - 8) / 20) d) Sn Sn) _ (a06.rng hB3.out rfl) Try.underlying40 rfl a0p ?_)) | ((with_reducible refine a08 4 ?_); go_must (refine a05 rfl 40 (.tmp 4) (.tmp 65) rfl (w.heap.size + 1) (Pa 2 router area S 0 0 0 0 0 0 Sn fl sq (.slice q ((x.length - 8) / 20) d) Sn Sn) rfl rfl (a06.there hR3.out 0 16 (by rw [hzl.out]; exact Nat.le_refl 16)) a0p (a0s _ _ _ _ _ _ _ _ _ _ _ _ _ _ _ _ (a03 _ _ _) (a03 _ _ _) (a03 _ _ _) (a03 _ _ _)) ?_; intro w9 hr9 hs9)))
 refine bodyPost_ret (v := .tuple #[.agg (Pa 2 router area S 0 0 0 0 0 0 Sn fl sq (.slice q ((x.length - 8) / 20) d) Sn Sn), .int .i64 0]) (a0g Try.results31 _ _ (w.heap.size + 1) (Pa' 2 router area S 0 0 0 0 0 0 Sn fl sq (.slice q ((x.length - 8) / 20) d) Sn Sn) _ rfl hr9.out Try.underlying40 rfl a0p) rfl ⟨⟨_, rfl, ?_⟩, hk3.out.trans' hs9.out (fun i e => .inr (by omega))⟩
 refine b0f.mk rfl (c0v _ _) rfl rfl (by rw [hS.out]; rfl) (a0u.nil _) (a0q.keepF hN3.out hs9.out (fun _ i e => by have := hN3f.out i e; omega)) (c0s _) (d0n.nil _ _) (b0s.nil _) (b0s.of (fun i e => by have := hN3f.out i e; omega)) (b0s.nil _)
theorem o0o (type : Int) (router area : Nat) (auth : List UInt8) (S : ByteArray) (hS : Hid (S = ⟨auth.toArray⟩)) (p : Option Addr) (c : Nat) (x : List UInt8) (hx : x.length ≤ 1000000) (w : World) (h : Hid (a0a w (.slice p x.length c) x)) :
 Calls Try.prog 31 #[.agg (Pa type router area S 0 0 0 0 0 0 Sn 0 0 Sn Sn Sn), .slice p x.length c] w (d0w (b0p type router area auth x).1 (b0p type router area auth x).2 w) := by
 by_cases t1 : type = 1
 ·subst t1
  by_cases hs : 20 ≤ x.length
  ·have e : b0p 1 router area auth x = (⟨1, router, area, auth, a0d (sub x 0 4), (a0d (sub x 4 2) : Nat), (a0d (sub x 8 4) : Nat), ((x.getD 7 0).toNat : Int), a0d (sub x 12 4), a0d (sub x 16 4), c09 (x.drop 20) ((x.length - 20) / 4), 0, 0, [], [], []⟩, 0) := by
    unfold b0p; rw [if_pos ⟨rfl, hs⟩]
   rw [e]
   exact pkHear_1 _ _ _ _ _ _ router area auth S hS p c x hx w h hs (Hi rfl) (Hi rfl) (Hi rfl) (Hi rfl) (Hi rfl) (Hi rfl)
  ·have e : b0p 1 router area auth x = (e03 1 router area auth, 0) := by
    unfold b0p; rw [if_neg (fun h => hs h.2), if_neg (fun h => by cases h.1), if_neg (by decide), if_neg (by decide), if_neg (by decide)]
   rw [e]
   exact q01 router area auth S hS p c x hx w h (by omega)
 ·by_cases t2 : type = 2
  ·subst t2
   by_cases hs : 8 ≤ x.length
   ·have e : b0p 2 router area auth x = (⟨2, router, area, auth, 0, 0, 0, 0, 0, 0, [], ((x.getD 3 0).toNat : Int), a0d (sub x 4 4), d0j (x.drop 8) ((x.length - 8) / 20), [], []⟩, 0) := by
     unfold b0p; rw [if_neg (fun h => t1 h.1), if_pos ⟨rfl, hs⟩]
    rw [e]
    exact pkHear_2 _ _ router area auth S hS p c x hx w h hs (Hi rfl) (Hi rfl)
   ·have e : b0p 2 router area auth x = (e03 2 router area auth, 0) := by
     unfold b0p; rw [if_neg (fun h => t1 h.1), if_neg (fun h => hs h.2), if_neg (by decide), if_neg (by decide), if_neg (by decide)]
    rw [e]
    exact p0z router area auth S hS p c x hx w h (by omega)
  ·by_cases t3 : type = 3
   ·subst t3
    have e : b0p 3 router area auth x = (⟨3, router, area, auth, 0, 0, 0, 0, 0, 0, [], 0, 0, [], e08 x (x.length / 12), []⟩, 0) := by
     unfold b0p; rw [if_neg (fun h => t1 h.1), if_neg (fun h => t2 h.1), if_pos rfl]
    rw [e]
    exact pkHear_3 router area auth S hS p c x hx w h
   ·by_cases t4 : type = 4
    ·subst t4
     have e : b0p 4 router area auth x = (⟨4, router, area, auth, 0, 0, 0, 0, 0, 0, [], 0, 0, [], [], (c0t x).1⟩, (c0t x).2) := by
      unfold b0p; rw [if_neg (fun h => t1 h.1), if_neg (fun h => t2 h.1), if_neg t3, if_pos rfl]
     rw [e]
     exact pkHear_4 _ _ router area auth S hS p c x hx w h (Hi rfl)
    ·by_cases t5 : type = 5
     ·subst t5
      have e : b0p 5 router area auth x = (⟨5, router, area, auth, 0, 0, 0, 0, 0, 0, [], 0, 0, d0j x (x.length / 20), [], []⟩, 0) := by
       unfold b0p; rw [if_neg (fun h => t1 h.1), if_neg (fun h => t2 h.1), if_neg t3, if_neg t4, if_pos rfl]
      rw [e]
      exact pkHear_5 router area auth S hS p c x hx w h
     ·have e : b0p type router area auth x = (e03 type router area auth, 0) := by
       unfold b0p; rw [if_neg (fun h => t1 h.1), if_neg (fun h => t2 h.1), if_neg t3, if_neg t4, if_neg t5]
      rw [e]
      exact m0z type router area auth S hS p c x hx w h t1 t2 t3 t4 t5
def offB (B : Nat) (p : Option Addr) (n : Nat) : Prop := 0 < n → ∀ i n c, (Value.slice p n c).ownBlock = some i → i ≠ B
def offM (B : Nat) (m : LsaM) : Prop := offB B m.p5 m.d.links.length ∧ offB B m.p7 m.d.routers.length
def j0q (lo : Nat) (w : World) (v : Value) (P : a0x) (B : Nat) : Prop :=
 ∃ pn cn ph ch pk ck pl cl, v = .agg (b05 P (.slice pn P.nbs.length cn) (.slice ph P.heads.length ch) (.slice pk P.keys.length ck) (.slice pl P.lsas.length cl)).toArray ∧ a0u w (.slice pn P.nbs.length cn) P.nbs ∧ g0b w (.slice ph P.heads.length ch) P.heads ∧ h0z w (.slice pk P.keys.length ck) P.keys ∧
  (∃ ms : List LsaM, ms.map (·.d) = P.lsas ∧ a0q 9 d0k w (.slice pl P.lsas.length cl) ms ∧ (∀ m ∈ ms, f0n w m) ∧ (∀ m ∈ ms, g0c lo m) ∧ (∀ i, (Value.slice pl P.lsas.length cl).ownBlock = some i → lo ≤ i) ∧ (∀ m ∈ ms, offM B m)) ∧ b0s lo pn ∧ b0s lo ph ∧ b0s lo pk ∧ offB B pn P.nbs.length ∧ offB B ph P.heads.length ∧ offB B pk P.keys.length ∧ offB B pl P.lsas.length
theorem j0q.keep {lo : Nat} {w w' : World} {v : Value} {P : a0x} {B : Nat} (h : j0q lo w v P B) (k : a02 (fun _ => False) w w') : j0q lo w' v P B := by
 obtain ⟨pn, cn, ph, ch, pk, ck, pl, cl, hv, a1, a2, a3, ⟨ms, b1, b2, b3, b4, b5, b6⟩, f1, f2, f3, o1, o2, o3, o4⟩ := h
 exact ⟨pn, cn, ph, ch, pk, ck, pl, cl, hv, a1.keep k, a0q.keep a2 k, a0q.keep a3 k, ⟨ms, b1, b2.keep k, fun m hm => (b3 m hm).keep k, b4, b5, b6⟩, f1, f2, f3, o1, o2, o3, o4⟩
theorem c0d {p : Option Addr} {n c n' c' i : Nat} (e : (Value.slice p n c).ownBlock = some i) : (Value.slice p n' c').ownBlock = some i := by
 cases p with
 | none => simp [Value.ownBlock] at e
 | some a => exact e
theorem j0q.store {lo : Nat} {w w' : World} {v : Value} {P : a0x} {B : Nat} (h : j0q lo w v P B) (k : a02 (fun i => i = B) w w') : b0f lo w' v P := by
 obtain ⟨pn, cn, ph, ch, pk, ck, pl, cl, hv, a1, a2, a3, ⟨ms, b1, b2, b3, b4, b5, b6⟩, f1, f2, f3, o1, o2, o3, o4⟩ := h
 have hml : ms.length = P.lsas.length := by rw [← b1, List.length_map]
 exact ⟨pn, cn, ph, ch, pk, ck, pl, cl, hv, a1.keepF k (fun h0 i e => o1 h0 i _ _ e), a0q.keepF a2 k (fun h0 i e => o2 h0 i _ _ e), a0q.keepF a3 k (fun h0 i e => o3 h0 i _ _ e), ⟨ms, b1, b2.keepF k (fun h0 i e => o4 (by omega) i _ _ e), fun m hm => ⟨(b3 m hm).1.keepF k (fun h0 i e => (b6 m hm).1 h0 i _ _ e), (b3 m hm).2.keepF k (fun h0 i e => (b6 m hm).2 h0 i _ _ e)⟩, b4, b5⟩, f1, f2, f3⟩
theorem b0f.away {lo lo' : Nat} {w : World} {v : Value} {P : a0x} {B : Nat} (h : b0f lo w v P) (hB : B < lo) (hl : lo' ≤ lo) : j0q lo' w v P B := by
 obtain ⟨pn, cn, ph, ch, pk, ck, pl, cl, hv, a1, a2, a3, ⟨ms, b1, b2, b3, b4, b5⟩, f1, f2, f3⟩ := h
 exact ⟨pn, cn, ph, ch, pk, ck, pl, cl, hv, a1, a2, a3, ⟨ms, b1, b2, b3, fun m hm => ⟨fun i n c e => Nat.le_trans hl ((b4 m hm).1 i n c e), fun i n c e => Nat.le_trans hl ((b4 m hm).2 i n c e)⟩, fun i e => Nat.le_trans hl (b5 i e), fun m hm => ⟨fun _ i n c e => by have := (b4 m hm).1 i n c e; omega, fun _ i n c e => by have := (b4 m hm).2 i n c e; omega⟩⟩,
  fun i n c e => Nat.le_trans hl (f1 i n c e), fun i n c e => Nat.le_trans hl (f2 i n c e), fun i n c e => Nat.le_trans hl (f3 i n c e), fun _ i n c e => by have := f1 i n c e; omega, fun _ i n c e => by have := f2 i n c e; omega, fun _ i n c e => by have := f3 i n c e; omega, fun _ i n c e => by have := b5 i (c0d e); omega⟩
theorem b0f.away2 {lo : Nat} {w : World} {v : Value} {P : a0x} (h : b0f lo w v P) : j0q lo w v P w.heap.size := by
 obtain ⟨pn, cn, ph, ch, pk, ck, pl, cl, hv, a1, a2, a3, ⟨ms, b1, b2, b3, b4, b5⟩, f1, f2, f3⟩ := h
 have hml : ms.length = P.lsas.length := by rw [← b1, List.length_map]
 exact ⟨pn, cn, ph, ch, pk, ck, pl, cl, hv, a1, a2, a3, ⟨ms, b1, b2, b3, b4, b5, fun m hm => ⟨fun h0 i n c e => by have := (b3 m hm).1.lt h0 i _ _ (c0d (n' := m.d.links.length) (c' := m.c5) e); omega, fun h0 i n c e => by have := (b3 m hm).2.lt h0 i _ _ (c0d (n' := m.d.routers.length) (c' := m.c7) e); omega⟩⟩, f1, f2, f3,
  fun h0 i n c e => by have := a1.lt h0 i _ _ (c0d (n' := P.nbs.length) (c' := cn) e); omega, fun h0 i n c e => by have := a0q.lt a2 h0 (fun x => by rw [b0r]; omega) i (c0d e); omega, fun h0 i n c e => by have := a0q.lt a3 h0 (fun x => by rw [c0o]; omega) i (c0d e); omega, fun h0 i n c e => by have := a0q.lt b2 (by omega) (fun x => by rw [d0b]; omega) i (c0d e); omega⟩
theorem b0f.older {lo lo' : Nat} {w : World} {v : Value} {P : a0x} (h : b0f lo w v P) (hl : lo' ≤ lo) : b0f lo' w v P := by
 obtain ⟨pn, cn, ph, ch, pk, ck, pl, cl, hv, a1, a2, a3, a4, f1, f2, f3⟩ := h
 exact ⟨pn, cn, ph, ch, pk, ck, pl, cl, hv, a1, a2, a3, a4.older hl, fun i n c e => Nat.le_trans hl (f1 i n c e), fun i n c e => Nat.le_trans hl (f2 i n c e), fun i n c e => Nat.le_trans hl (f3 i n c e)⟩
theorem b0f.keep {lo : Nat} {w w' : World} {v : Value} {P : a0x} (h : b0f lo w v P) (k : a02 (fun _ => False) w w') : b0f lo w' v P := h.keepF k (fun _ _ f => f)
theorem b0f.zero (lo : Nat) (w : World) : b0f lo w (.agg Zp) b0y :=
 b0f.mk rfl rfl rfl rfl rfl (a0u.nil _) (e02 _) (c0s _) (d0n.nil _ _) (b0s.nil _) (b0s.nil _) (b0s.nil _)
theorem b0f.packIn {lo : Nat} {w : World} {v : Value} {P : a0x} (h : b0f lo w v P) : ∃ pn cn ph ch pk ck pl cl cs, v = .agg cs.toArray ∧ cs = b05 P (.slice pn P.nbs.length cn) (.slice ph P.heads.length ch) (.slice pk P.keys.length ck) (.slice pl P.lsas.length cl) ∧ e04 w P (.slice pn P.nbs.length cn) (.slice ph P.heads.length ch) (.slice pk P.keys.length ck) (.slice pl P.lsas.length cl) := by
 obtain ⟨pn, cn, ph, ch, pk, ck, pl, cl, hv, a1, a2, a3, a4, -, -, -⟩ := h
 exact ⟨pn, cn, ph, ch, pk, ck, pl, cl, _, hv, rfl, ⟨a1, a2, a3, a4.at⟩⟩
theorem j0q.cells {lo : Nat} {w : World} {v : Value} {P : a0x} {B : Nat} (h : j0q lo w v P B) : ∃ cs : List Value, v = .agg cs.toArray ∧ cs.length = 16 ∧ cs.toArray.all (·.oneCell') = true := by
 obtain ⟨pn, cn, ph, ch, pk, ck, pl, cl, hv, -⟩ := h
 exact ⟨_, hv, rfl, a0s _ _ _ _ _ _ _ _ _ _ _ _ _ _ _ _ (a03 _ _ _) (a03 _ _ _) (a03 _ _ _) (a03 _ _ _)⟩
def PackBox (w : World) (v : Value) (P : a0x) (lo : Nat) : Prop := ∃ B cs, v = .pointer (some ⟨B, 0, none⟩) ∧ lo ≤ B ∧ w.rangeAt B 0 cs ∧ cs.length = 16 ∧ b0f lo w (.agg cs.toArray) P
end Go.Proofs.Ytmggbljkehclpaa
