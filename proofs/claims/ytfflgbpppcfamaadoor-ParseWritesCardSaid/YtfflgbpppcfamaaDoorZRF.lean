/- Read, walked. -/
import Derived.Test.YtfflgbpppcfamaaDoorZRE
import Derived.Test.YtfflgbpppcfamaaDoorLXD
namespace Go.Proofs.YtfflgbpppcfamaaDoor
open Go.RowKit

theorem load_strp (w : World) (b o : Nat) (S : ByteArray) (h : w.cell? ⟨b, o, none⟩ = some (.string S)) : (loadVar 9 ⟨b, o, none⟩).run Tryd.prog w = .ok (.string S) w := by
  simp [go_sem, h]
theorem lexL_bounds {t : List UInt8} {l : List (List UInt8)} (h : lexL t = .ok l) : l.length ≤ t.length ∧ ∀ x ∈ l, x.length ≤ t.length := by
  have h1 := lexL_total t.length t (Nat.le_refl _) l h
  have h2 : ∀ m : List (List UInt8), (∀ w ∈ m, 1 ≤ w.length) → m.length ≤ total m ∧ ∀ x ∈ m, x.length ≤ total m := by
    intro m
    induction m with
    | nil => simp
    | cons a m ih =>
      intro h
      have i1 := ih (fun w hw => h w (by simp [hw]))
      have i2 := h a (by simp)
      have e : total (a :: m) = a.length + total m := by simp [total]
      refine ⟨by rw [e, List.length_cons]; omega, fun x hx => ?_⟩
      rw [List.mem_cons] at hx
      rcases hx with rfl | hx
      · omega
      · have := i1.2 x hx; omega
  have h3 := h2 l (fun w hw => by
    rcases h1.2 w hw with h | ⟨c, rfl, _⟩
    · unfold isWordB at h; simp at h; omega
    · simp)
  exact ⟨by omega, fun x hx => by have := h3.2 x hx; omega⟩
theorem words_ok (s : ByteArray) (l : List (List UInt8)) (w : World) (hs : s.size ≤ 8796093022208) (h : Hid (lexL s.data.toList = .ok l)) :
    Calls Tryd.prog 12 #[.string s] w fun e w' => ∃ p c, e = .returned (.tuple #[.slice p l.length c, .int .i64 (s.size : Nat), .int .i64 0]) ∧ OwnStrs w w' (.slice p l.length c) l ∧ Keeps (fun _ => False) w w' :=
  (words_any s w hs).mono fun e w' h' => by
    have hE : lexWords s.data.toList = (l, s.size, 0) := by unfold lexWords; rw [h.out]; simp
    unfold WordsPost at h'; rw [hE] at h'; exact h'
theorem words_bad (s : ByteArray) (m : Nat) (w : World) (hs : s.size ≤ 8796093022208) (h : Hid (lexL s.data.toList = .bad m)) :
    Calls Tryd.prog 12 #[.string s] w fun e w' => (∃ (p : Option Addr) (c : Nat) (n : Nat), e = .returned (.tuple #[.slice p 0 c, .int .i64 (n : Nat), .int .i64 3])) ∧ Keeps (fun _ => False) w w' :=
  (words_any s w hs).mono fun e w' h' => by
    have hE : lexWords s.data.toList = ([], s.data.toList.length - m, 3) := by unfold lexWords; rw [h.out]
    unfold WordsPost at h'; rw [hE] at h'
    obtain ⟨p, c, he, _, hk⟩ := h'
    exact ⟨⟨p, c, _, he⟩, hk⟩
theorem rWords_ok (s : ByteArray) (l : List (List UInt8)) (w : World) (hs : s.size ≤ 8796093022208) (h : Hid (lexL s.data.toList = .ok l)) :
    Calls Tryd.prog 14 #[.string s] w fun e w' => ∃ p c, e = .returned (.tuple #[.slice p l.length c, .int .i64 (s.size : Nat), .int .i64 0]) ∧ OwnStrs w w' (.slice p l.length c) l ∧ Keeps (fun _ => False) w w' :=
  (rWords_any s w hs).mono fun e w' h' => by
    have hE : lexWords s.data.toList = (l, s.size, 0) := by unfold lexWords; rw [h.out]; simp
    unfold WordsPost at h'; rw [hE] at h'; exact h'
theorem rWords_bad (s : ByteArray) (m : Nat) (w : World) (hs : s.size ≤ 8796093022208) (h : Hid (lexL s.data.toList = .bad m)) :
    Calls Tryd.prog 14 #[.string s] w fun e w' => (∃ (p : Option Addr) (c : Nat) (n : Nat), e = .returned (.tuple #[.slice p 0 c, .int .i64 (n : Nat), .int .i64 3])) ∧ Keeps (fun _ => False) w w' :=
  (rWords_any s w hs).mono fun e w' h' => by
    have hE : lexWords s.data.toList = ([], s.data.toList.length - m, 3) := by unfold lexWords; rw [h.out]
    unfold WordsPost at h'; rw [hE] at h'
    obtain ⟨p, c, he, _, hk⟩ := h'
    exact ⟨⟨p, c, _, he⟩, hk⟩
/-- words behind the first one -/
theorem OwnStrs.tail {w0 w : World} {p : Option Addr} {n c : Nat} {x : List UInt8} {xs : List (List UInt8)} (h : OwnStrs w0 w (.slice p n c) (x :: xs)) (hn : n = xs.length + 1) :
    ∃ g, p = some ⟨g, 0, none⟩ ∧ n ≤ c ∧ w.cell? ⟨g, 0, none⟩ = some (strv x) ∧ ∀ q, q = (if c = 1 then some (⟨g, 0, none⟩ : Addr) else some ⟨g, 1, none⟩) → StrsC w (.slice q xs.length (c - 1)) xs := by
  rcases h.1.2 with ⟨h1, h2⟩ | ⟨g, cap, cur, he, _, _, hle, _⟩
  · simp at h2
  · injection he with e1 e2 e3
    subst e1; subst e3
    have hc : ∀ j u, ((x :: xs).map strv)[j]? = some u → w.cell? ⟨g, j, none⟩ = some u := fun j u hu => by
      have := h.1.cells (g := g) rfl j u hu
      rw [Addr.add_mid] at this; simpa using this
    simp only [List.length_cons] at hle
    refine ⟨g, rfl, by omega, hc 0 _ rfl, ?_⟩
    rintro q rfl
    refine ⟨_, _, rfl, by omega, fun h0 => ⟨g, 1, by rw [if_neg (by omega)], fun j u hu => ?_⟩⟩
    have := hc (j + 1) u (by simpa using hu)
    rw [Nat.add_comm 1 j]; exact this
/-- what Read answers -/
def ReadPost (f : Option CmdD) (w : World) (e : Ending) (w' : World) : Prop :=
  (match f with
  | some c => e = .returned (.tuple #[.agg #[.int .i64 c.what, .int .i64 c.head, strv c.name, strv c.leaf, strv c.value, .int .i64 c.n], .int .i64 0])
  | none => e = .returned (.tuple #[.agg #[.int .i64 0, .int .i64 0, .string ⟨#[]⟩, .string ⟨#[]⟩, .string ⟨#[]⟩, .int .i64 0], .int .i64 3])) ∧ Keeps (fun _ => False) w w'
theorem command_b (s : ByteArray) (v : Value) (ws : List (List UInt8)) (b : Bool) (w : World) (ht : Hid (VerbsOk w)) (hv : Hid (StrsC w v ws)) (hs : Hid (∀ x ∈ ws, x.length ≤ 9223372036854775807)) (hn : ws.length ≤ 1000000) (hb : Hid ((cmdD s.data.toList ws).isSome = b)) :
    Calls Tryd.prog 13 #[.string s, v] w fun e w' => ∃ (a h : Int) (N L V : ByteArray) (n : Int), e = .returned (.tuple #[.agg #[.int .i64 a, .int .i64 h, .string N, .string L, .string V, .int .i64 n], .bool b]) ∧ Keeps (fun _ => False) w w' ∧
    (∀ c, cmdD s.data.toList ws = some c → a = c.what ∧ h = c.head ∧ N.data.toList = c.name ∧ L.data.toList = c.leaf ∧ V.data.toList = c.value ∧ n = c.n) :=
  (command_any s v ws w ht hv hs hn).mono fun e w' ⟨a, h, N, L, V, n, he, hk, hx⟩ => ⟨a, h, N, L, V, n, by rw [he, hb.out], hk, hx⟩
theorem strv_of {N : ByteArray} {l : List UInt8} (h : N.data.toList = l) : Value.string N = strv l := by subst h; rfl
set_option maxRecDepth 100000 in
set_option maxHeartbeats 1000000 in
theorem read_any (s : ByteArray) (w : World) (ht : Hid (VerbsOk w)) (hs : s.size ≤ 1000000) : Calls Tryd.prog 5 #[.string s] w (ReadPost (readD s.data.toList) w) := by
  have ht0 := Lib.hid (ht.out.keep ((Keeps.refl (fun _ => False) w).alloc (.cells #[.int .i64 0, .int .i64 0, .string ⟨#[]⟩, .string ⟨#[]⟩, .string ⟨#[]⟩, .int .i64 0] 25)))
  have hB0 := Lib.hid (BlkAt.new w 25 [.int .i64 0, .int .i64 0, .string ⟨#[]⟩, .string ⟨#[]⟩, .string ⟨#[]⟩, .int .i64 0])
  have hK0 : Hid (Keeps (fun _ => False) w (w.alloc (.cells #[.int .i64 0, .int .i64 0, .string ⟨#[]⟩, .string ⟨#[]⟩, .string ⟨#[]⟩, .int .i64 0] 25))) := Lib.hid ((Keeps.refl _ _).alloc _)
  cases hl : lexL s.data.toList with
  | bad m =>
    have hr : readD s.data.toList = none := by unfold readD; rw [hl]
    rw [hr]
    have hl' := Lib.hid hl; clear hl hr ht
    go_enter Tryd.func5, Tryd.ntmps5
    go_wp2_with fail
    refine (words_bad s m _ (by omega) hl').mono ?_
    rintro e w1 ⟨⟨p, c, n, rfl⟩, k1⟩
    have hB1 := Lib.hid (hB0.out.keep k1 id); have hK1 := Lib.hid (hK0.out.trans k1)
    clear k1 hB0
    go_wp2_with ((with_reducible refine at_store 2 ?_); refine wpList_store_blk rfl 25 (.tmp 2) (.tmp 22) rfl w.heap.size #[.int .i64 0, .int .i64 0, .string ⟨#[]⟩, .string ⟨#[]⟩, .string ⟨#[]⟩, .int .i64 0] rfl rfl (BlkAt.there (hB1.out) 0 6 (Nat.le_refl 6)) cmdInfo (cmd_one _ _ _ _ _ _) ?_; intro w9 hr9 hs9)
    refine bodyPost_ret (v := .tuple #[.agg #[.int .i64 0, .int .i64 0, .string ⟨#[]⟩, .string ⟨#[]⟩, .string ⟨#[]⟩, .int .i64 0], .int .i64 3]) (ret_cell_tmp Tryd.results5 _ _ w.heap.size [.int .i64 0, .int .i64 0, .string ⟨#[]⟩, .string ⟨#[]⟩, .string ⟨#[]⟩, .int .i64 0] _ rfl hr9.out Tryd.underlying25 rfl cmdInfo) rfl ?_
    exact ⟨rfl, hK1.out.trans' hs9.out (fun i e => .inr (by omega))⟩
  | ok l =>
    have hbd := lexL_bounds hl
    have hll : s.data.toList.length = s.size := by simp
    have hl' := Lib.hid hl
    cases l with
    | nil =>
      have hr : readD s.data.toList = none := by unfold readD; rw [hl]; rfl
      rw [hr]
      clear hl hr ht hbd
      go_enter Tryd.func5, Tryd.ntmps5
      go_wp2_with fail
      refine (words_ok s [] _ (by omega) hl').mono ?_
      rintro e w1 ⟨p, c, rfl, _, k1⟩
      have hB1 := Lib.hid (hB0.out.keep k1 id); have hK1 := Lib.hid (hK0.out.trans k1)
      clear k1 hB0
      go_wp2_with ((with_reducible refine at_store 2 ?_); refine wpList_store_blk rfl 25 (.tmp 2) (.tmp 22) rfl w.heap.size #[.int .i64 0, .int .i64 0, .string ⟨#[]⟩, .string ⟨#[]⟩, .string ⟨#[]⟩, .int .i64 0] rfl rfl (BlkAt.there (hB1.out) 0 6 (Nat.le_refl 6)) cmdInfo (cmd_one _ _ _ _ _ _) ?_; intro w9 hr9 hs9)
      refine bodyPost_ret (v := .tuple #[.agg #[.int .i64 0, .int .i64 0, .string ⟨#[]⟩, .string ⟨#[]⟩, .string ⟨#[]⟩, .int .i64 0], .int .i64 3]) (ret_cell_tmp Tryd.results5 _ _ w.heap.size [.int .i64 0, .int .i64 0, .string ⟨#[]⟩, .string ⟨#[]⟩, .string ⟨#[]⟩, .int .i64 0] _ rfl hr9.out Tryd.underlying25 rfl cmdInfo) rfl ?_
      exact ⟨rfl, hK1.out.trans' hs9.out (fun i e => .inr (by omega))⟩
    | cons x xs =>
      have hr : readD s.data.toList = cmdD x xs := by unfold readD; rw [hl]; rfl
      rw [hr]
      simp only [List.length_cons, List.mem_cons] at hbd
      have hxn : xs.length ≤ 1000000 := by omega
      have hxs : Hid (∀ y ∈ xs, y.length ≤ 9223372036854775807) := Lib.hid fun y hy => by have := hbd.2 y (.inr hy); omega
      obtain ⟨X, hX⟩ : ∃ X : ByteArray, X = ⟨x.toArray⟩ := ⟨_, rfl⟩
      have hXl : X.data.toList = x := by rw [hX]
      obtain ⟨b, hb⟩ : ∃ b, (cmdD X.data.toList xs).isSome = b := ⟨_, rfl⟩
      have hb' := Lib.hid hb
      have hX' := Lib.hid hX; have hXl' := Lib.hid hXl
      obtain ⟨F, hF⟩ : ∃ F, cmdD x xs = F := ⟨_, rfl⟩
      rw [hF]
      have hF' := Lib.hid hF
      clear hl hr ht hbd hb hX hXl hF
      go_enter Tryd.func5, Tryd.ntmps5
      go_wp2_with fail
      refine (words_ok s (x :: xs) _ (by omega) hl').mono ?_
      rintro e w1 ⟨p, c, rfl, ho, k1⟩
      rw [List.length_cons] at ho ⊢
      obtain ⟨g, rfl, hnc, hc0, htail⟩ := ho.tail rfl
      have hB1 := Lib.hid (hB0.out.keep k1 id); have hK1 := Lib.hid (hK0.out.trans k1); have ht1 := Lib.hid (ht0.out.keep k1)
      obtain ⟨q, hq⟩ : ∃ q, (if c = 1 then some (⟨g, 0, none⟩ : Addr) else some ⟨g, 1, none⟩) = q := ⟨_, rfl⟩
      have hT1 := Lib.hid (htail q hq.symm)
      have hq' := Lib.hid hq
      have hcX : Hid (w1.cell? ⟨g, 0, none⟩ = some (.string X)) := Lib.hid (by rw [hX'.out]; exact hc0)
      clear k1 hB0 ht0 hK0 ho htail hq hc0
      go_upto_region 4 with fail
      refine wp_region_noPanic ?_
      refine wp_region_held_drew (S := (fun W => Keeps (fun _ => False) w1 W)) (by kernel_rfl) (((Keeps.refl _ _).drew)) (fun hHeld => ?_)
      have h1le : (1 : Int) ≤ (xs.length : Int) + 1 := by omega
      refine tk 0 rfl ?_
      refine tk 1 rfl ?_
      refine tkL 2 rfl (yieldsIf_load_cell (by rfl) 9 (.tmp 25) rfl g 0 rfl _ (fun _ s => s.cell0 hcX.out) (fun w s => load_strp w _ _ _ s)) ?_
      refine tk 3 rfl ?_
      refine tk 4 rfl ?_
      rw [hq'.out]
      refine step2L 5 9 rfl rfl (by kernel_rfl) (fun K hK => ?_) (fun K hK => ?_)
      · skip
        go_simp
        (refine (command_b X _ xs b _ (Lib.hid (ht1.out.keep hHeld)) (Lib.hid (hT1.out.keep hHeld)) hxs hxn hb').mono ?_; rintro e w4 ⟨a, h, N, L, V, n, rfl, k4, hx⟩; have hB4 := Lib.hid (hB1.out.keep (hHeld.trans k4) id); have hh4 := Lib.hid (hHeld.trans k4); have hx' := Lib.hid hx; have k4' := Lib.hid k4; clear k4 hx)
        go_wp2_with fail
        refine hK.out _ _ (hHeld.trans k4'.out) (fun hHeld => ?_)
        clear hK K
        try simp only [Act.put, sA, sZ, sS]
        have hsz4 : w1.heap.size ≤ w4.heap.size := hh4.out.size
        refine tk 6 rfl ?_
        refine tk 7 rfl ?_
        refine tk 8 rfl ?_
        refine stepL 9 rfl (by kernel_rfl) (fun K hK => ?_)
        go_simp
        refine hK.out _ _ ((hHeld.alloc _)) (fun hHeld => ?_)
        clear hK K
        try simp only [Act.put, sA, sZ, sS]
        refine stepL 10 rfl (by kernel_rfl) (fun K hK => ?_)
        rw [if_pos (by rfl)]
        (refine wp_store_mid 25 (.tmp 7) (.tmp 30) rfl w4.heap.size 0 #[.int .i64 a, .int .i64 h, .string N, .string L, .string V, .int .i64 n] rfl rfl (BlkAt.there (BlkAt.new w4 25 [.int .i64 0, .int .i64 0, .string ⟨#[]⟩, .string ⟨#[]⟩, .string ⟨#[]⟩, .int .i64 0]) 0 6 (Nat.le_refl 6)) cmdInfo (cmd_one _ _ _ _ _ _) ?_; have hs5 : Keeps (fun _ => False) w1 ((w4.alloc (.cells #[.int .i64 0, .int .i64 0, .string ⟨#[]⟩, .string ⟨#[]⟩, .string ⟨#[]⟩, .int .i64 0] 25)).setCells w4.heap.size 0 [.int .i64 a, .int .i64 h, .string N, .string L, .string V, .int .i64 n]) := Keeps.setCells (.inr (by omega)) _ _ _ hHeld; have hr5 : ((w4.alloc (.cells #[.int .i64 0, .int .i64 0, .string ⟨#[]⟩, .string ⟨#[]⟩, .string ⟨#[]⟩, .int .i64 0] 25)).setCells w4.heap.size 0 [.int .i64 a, .int .i64 h, .string N, .string L, .string V, .int .i64 n]).rangeAt w4.heap.size 0 [.int .i64 a, .int .i64 h, .string N, .string L, .string V, .int .i64 n] := World.rangeAt_setCells_same _ _ _ _ (BlkAt.there (BlkAt.new w4 25 [.int .i64 0, .int .i64 0, .string ⟨#[]⟩, .string ⟨#[]⟩, .string ⟨#[]⟩, .int .i64 0]) 0 6 (Nat.le_refl 6)); have hB5 := Lib.hid (hB1.out.keep hs5 id); simp only [] at hs5 hr5 hB5 ⊢; generalize (w4.alloc (.cells #[.int .i64 0, .int .i64 0, .string ⟨#[]⟩, .string ⟨#[]⟩, .string ⟨#[]⟩, .int .i64 0] 25)).setCells w4.heap.size 0 [.int .i64 a, .int .i64 h, .string N, .string L, .string V, .int .i64 n] = w5 at hs5 hr5 hB5 ⊢)
        refine hK.out _ _ (hs5) (fun hHeld => ?_)
        clear hK K
        try simp only [Act.put, sA, sZ, sS]
        refine tk 11 rfl ?_
        refine wpAnyH_done (by kernel_rfl) (NoPanic.normal ?_) _
        have hr5' := Lib.hid hr5
        have hK5 := Lib.hid (hK1.out.trans hHeld)
        clear hr5 hs5 hHeld hB1 hK1 ht1 hT1 hcX
        cases b with
        | false =>
          go_wp2_with ((with_reducible refine at_store 2 ?_); refine wpList_store_blk rfl 25 (.tmp 2) (.tmp 34) rfl w.heap.size #[.int .i64 0, .int .i64 0, .string ⟨#[]⟩, .string ⟨#[]⟩, .string ⟨#[]⟩, .int .i64 0] rfl rfl (BlkAt.there (hB5.out) 0 6 (Nat.le_refl 6)) cmdInfo (cmd_one _ _ _ _ _ _) ?_; intro w9 hr9 hs9)
          refine bodyPost_ret (v := .tuple #[.agg #[.int .i64 0, .int .i64 0, .string ⟨#[]⟩, .string ⟨#[]⟩, .string ⟨#[]⟩, .int .i64 0], .int .i64 3]) (ret_cell_tmp Tryd.results5 _ _ w.heap.size [.int .i64 0, .int .i64 0, .string ⟨#[]⟩, .string ⟨#[]⟩, .string ⟨#[]⟩, .int .i64 0] _ rfl hr9.out Tryd.underlying25 rfl cmdInfo) rfl ?_
          rw [show F = none by rw [← hF'.out, ← hXl'.out]; simpa using hb'.out]
          exact ⟨rfl, hK5.out.trans' hs9.out (fun i e => .inr (by omega))⟩
        | true =>
          go_wp2_with (first | ((with_reducible refine at_slot 35 ?_); refine wpList_load_mid rfl 25 (.tmp 7) rfl w4.heap.size 0 rfl [.int .i64 a, .int .i64 h, .string N, .string L, .string V, .int .i64 n] _ hr5'.out Tryd.underlying25 rfl cmdInfo ?_) | ((with_reducible refine at_store 2 ?_); refine wpList_store_blk rfl 25 (.tmp 2) (.tmp 35) rfl w.heap.size #[.int .i64 a, .int .i64 h, .string N, .string L, .string V, .int .i64 n] rfl rfl (BlkAt.there (hB5.out) 0 6 (Nat.le_refl 6)) cmdInfo (cmd_one _ _ _ _ _ _) ?_; intro w9 hr9 hs9))
          refine bodyPost_ret (v := .tuple #[.agg #[.int .i64 a, .int .i64 h, .string N, .string L, .string V, .int .i64 n], .int .i64 0]) (ret_cell_tmp Tryd.results5 _ _ w.heap.size [.int .i64 a, .int .i64 h, .string N, .string L, .string V, .int .i64 n] _ rfl hr9.out Tryd.underlying25 rfl cmdInfo) rfl ?_
          obtain ⟨f, hf⟩ := Option.isSome_iff_exists.1 hb'.out
          obtain ⟨e1, e2, e3, e4, e5, e6⟩ := hx'.out f hf
          rw [show F = some f by rw [← hF'.out, ← hXl'.out]; exact hf]
          refine ⟨?_, hK5.out.trans' hs9.out (fun i e => .inr (by omega))⟩
          simp only [e1, e2, e6, strv_of e3, strv_of e4, strv_of e5]
      · skip
        go_simp
        refine hK.out _ _ ((hHeld.alloc _)) (fun hHeld => ?_)
        clear hK K
        try simp only [Act.put, sA, sZ, sS]
        have hB7 := Lib.hid (BlkAt.new w1.drew 25 [.int .i64 0, .int .i64 0, .string ⟨#[]⟩, .string ⟨#[]⟩, .string ⟨#[]⟩, .int .i64 0])
        refine stepL 5 rfl (by kernel_rfl) (fun K hK => ?_)
        go_simp
        (refine (command_b X _ xs b _ (Lib.hid (ht1.out.keep hHeld)) (Lib.hid (hT1.out.keep hHeld)) hxs hxn hb').mono ?_; rintro e w4 ⟨a, h, N, L, V, n, rfl, k4, hx⟩; have hB4 := Lib.hid (hB1.out.keep (hHeld.trans k4) id); have hh4 := Lib.hid (hHeld.trans k4); have hx' := Lib.hid hx; have k4' := Lib.hid k4; clear k4 hx)
        go_wp2_with fail
        refine hK.out _ _ ((hHeld.trans k4'.out)) (fun hHeld => ?_)
        clear hK K
        try simp only [Act.put, sA, sZ, sS]
        have hB8 := Lib.hid (hB7.out.keep k4'.out id)
        refine tk 6 rfl ?_
        refine tk 7 rfl ?_
        refine tk 8 rfl ?_
        refine stepL 10 rfl (by kernel_rfl) (fun K hK => ?_)
        rw [if_pos (by rfl)]
        (refine wp_store_mid 25 (.tmp 7) (.tmp 30) rfl w1.heap.size 0 #[.int .i64 a, .int .i64 h, .string N, .string L, .string V, .int .i64 n] rfl rfl (BlkAt.there (hB8.out) 0 6 (Nat.le_refl 6)) cmdInfo (cmd_one _ _ _ _ _ _) ?_; have hs5 : Keeps (fun _ => False) w1 ((w4).setCells w1.heap.size 0 [.int .i64 a, .int .i64 h, .string N, .string L, .string V, .int .i64 n]) := Keeps.setCells (.inr (by omega)) _ _ _ hHeld; have hr5 : ((w4).setCells w1.heap.size 0 [.int .i64 a, .int .i64 h, .string N, .string L, .string V, .int .i64 n]).rangeAt w1.heap.size 0 [.int .i64 a, .int .i64 h, .string N, .string L, .string V, .int .i64 n] := World.rangeAt_setCells_same _ _ _ _ (BlkAt.there (hB8.out) 0 6 (Nat.le_refl 6)); have hB5 := Lib.hid (hB1.out.keep hs5 id); simp only [] at hs5 hr5 hB5 ⊢; generalize (w4).setCells w1.heap.size 0 [.int .i64 a, .int .i64 h, .string N, .string L, .string V, .int .i64 n] = w5 at hs5 hr5 hB5 ⊢)
        refine hK.out _ _ (hs5) (fun hHeld => ?_)
        clear hK K
        try simp only [Act.put, sA, sZ, sS]
        refine tk 11 rfl ?_
        refine wpAnyH_done (by kernel_rfl) (NoPanic.normal ?_) _
        have hr5' := Lib.hid hr5
        have hK5 := Lib.hid (hK1.out.trans hHeld)
        clear hr5 hs5 hHeld hB1 hK1 ht1 hT1 hcX
        cases b with
        | false =>
          go_wp2_with ((with_reducible refine at_store 2 ?_); refine wpList_store_blk rfl 25 (.tmp 2) (.tmp 34) rfl w.heap.size #[.int .i64 0, .int .i64 0, .string ⟨#[]⟩, .string ⟨#[]⟩, .string ⟨#[]⟩, .int .i64 0] rfl rfl (BlkAt.there (hB5.out) 0 6 (Nat.le_refl 6)) cmdInfo (cmd_one _ _ _ _ _ _) ?_; intro w9 hr9 hs9)
          refine bodyPost_ret (v := .tuple #[.agg #[.int .i64 0, .int .i64 0, .string ⟨#[]⟩, .string ⟨#[]⟩, .string ⟨#[]⟩, .int .i64 0], .int .i64 3]) (ret_cell_tmp Tryd.results5 _ _ w.heap.size [.int .i64 0, .int .i64 0, .string ⟨#[]⟩, .string ⟨#[]⟩, .string ⟨#[]⟩, .int .i64 0] _ rfl hr9.out Tryd.underlying25 rfl cmdInfo) rfl ?_
          rw [show F = none by rw [← hF'.out, ← hXl'.out]; simpa using hb'.out]
          exact ⟨rfl, hK5.out.trans' hs9.out (fun i e => .inr (by omega))⟩
        | true =>
          go_wp2_with (first | ((with_reducible refine at_slot 35 ?_); refine wpList_load_mid rfl 25 (.tmp 7) rfl w1.heap.size 0 rfl [.int .i64 a, .int .i64 h, .string N, .string L, .string V, .int .i64 n] _ hr5'.out Tryd.underlying25 rfl cmdInfo ?_) | ((with_reducible refine at_store 2 ?_); refine wpList_store_blk rfl 25 (.tmp 2) (.tmp 35) rfl w.heap.size #[.int .i64 a, .int .i64 h, .string N, .string L, .string V, .int .i64 n] rfl rfl (BlkAt.there (hB5.out) 0 6 (Nat.le_refl 6)) cmdInfo (cmd_one _ _ _ _ _ _) ?_; intro w9 hr9 hs9))
          refine bodyPost_ret (v := .tuple #[.agg #[.int .i64 a, .int .i64 h, .string N, .string L, .string V, .int .i64 n], .int .i64 0]) (ret_cell_tmp Tryd.results5 _ _ w.heap.size [.int .i64 a, .int .i64 h, .string N, .string L, .string V, .int .i64 n] _ rfl hr9.out Tryd.underlying25 rfl cmdInfo) rfl ?_
          obtain ⟨f, hf⟩ := Option.isSome_iff_exists.1 hb'.out
          obtain ⟨e1, e2, e3, e4, e5, e6⟩ := hx'.out f hf
          rw [show F = some f by rw [← hF'.out, ← hXl'.out]; exact hf]
          refine ⟨?_, hK5.out.trans' hs9.out (fun i e => .inr (by omega))⟩
          simp only [e1, e2, e6, strv_of e3, strv_of e4, strv_of e5]
end Go.Proofs.YtfflgbpppcfamaaDoor
