/- Read, walked. -/
import Derived.Test.YtdannodhlaaoiaaGreatDoorWT19
import Derived.Test.YtdannodhlaaoiaaGreatDoorWT04
import Derived.Test.YtdannodhlaaoiaaGreatDoorWT18
set_option linter.unusedVariables false
set_option linter.unusedSimpArgs false
namespace Go.Proofs.YtdannodhlaaoiaaGreatDoor
open Go.RowKit

theorem load_strp (w : World) (b o : Nat) (S : ByteArray) (h : w.cell? ⟨b, o, none⟩ = some (.string S)) : (loadVar 9 ⟨b, o, none⟩).run Tryz.prog w = .ok (.string S) w := by
  simp [go_sem, h]
theorem lexL_bounds {t : List UInt8} {l : List (List UInt8)} (h : lexL t = .ok l) : l.length ≤ t.length ∧ ∀ x ∈ l, x.length ≤ t.length := by
  have h1 := lexL_total t.length t (Nat.le_refl _) l h
  have h2 : ∀ m : List (List UInt8), (∀ w ∈ m, 1 ≤ w.length) → m.length ≤ total m ∧ ∀ x ∈ m, x.length ≤ total m := by
    intro m
    induction m with
    | nil => simp
    | cons a m ih =>
      intro h
      have i1 := ih (fun w hw => h w (by simp [hw]))
      have i2 := h a (by simp)
      have e : total (a :: m) = a.length + total m := by simp [total]
      refine ⟨by rw [e, List.length_cons]; omega, fun x hx => ?_⟩
      rw [List.mem_cons] at hx
      rcases hx with rfl | hx
      · omega
      · have := i1.2 x hx; omega
  have h3 := h2 l (fun w hw => by
    rcases h1.2 w hw with h | ⟨c, rfl, _⟩
    · unfold isWordB at h; simp at h; omega
    · simp)
  exact ⟨by omega, fun x hx => by have := h3.2 x hx; omega⟩
theorem words_ok (s : ByteArray) (l : List (List UInt8)) (w : World) (hs : s.size ≤ 8796093022208) (h : Hid (lexL s.data.toList = .ok l)) :
    Calls Tryz.prog 23 #[.string s] w fun e w' => ∃ p c, e = .returned (.tuple #[.slice p l.length c, .int .i64 (s.size : Nat), .int .i64 0]) ∧ OwnStrs w w' (.slice p l.length c) l ∧ Keeps (fun _ => False) w w' :=
  (words_any s w hs).mono fun e w' h' => by
    have hE : lexWords s.data.toList = (l, s.size, 0) := by unfold lexWords; rw [h.out]; simp
    unfold WordsPost at h'; rw [hE] at h'; exact h'
theorem words_bad (s : ByteArray) (m : Nat) (w : World) (hs : s.size ≤ 8796093022208) (h : Hid (lexL s.data.toList = .bad m)) :
    Calls Tryz.prog 23 #[.string s] w fun e w' => (∃ (p : Option Addr) (c : Nat) (n : Nat), e = .returned (.tuple #[.slice p 0 c, .int .i64 (n : Nat), .int .i64 3])) ∧ Keeps (fun _ => False) w w' :=
  (words_any s w hs).mono fun e w' h' => by
    have hE : lexWords s.data.toList = ([], s.data.toList.length - m, 3) := by unfold lexWords; rw [h.out]
    unfold WordsPost at h'; rw [hE] at h'
    obtain ⟨p, c, he, _, hk⟩ := h'
    exact ⟨⟨p, c, _, he⟩, hk⟩
theorem rWords_ok (s : ByteArray) (l : List (List UInt8)) (w : World) (hs : s.size ≤ 8796093022208) (h : Hid (lexL s.data.toList = .ok l)) :
    Calls Tryz.prog 132 #[.string s] w fun e w' => ∃ p c, e = .returned (.tuple #[.slice p l.length c, .int .i64 (s.size : Nat), .int .i64 0]) ∧ OwnStrs w w' (.slice p l.length c) l ∧ Keeps (fun _ => False) w w' :=
  (rWords_any s w hs).mono fun e w' h' => by
    have hE : lexWords s.data.toList = (l, s.size, 0) := by unfold lexWords; rw [h.out]; simp
    unfold WordsPost at h'; rw [hE] at h'; exact h'
theorem rWords_bad (s : ByteArray) (m : Nat) (w : World) (hs : s.size ≤ 8796093022208) (h : Hid (lexL s.data.toList = .bad m)) :
    Calls Tryz.prog 132 #[.string s] w fun e w' => (∃ (p : Option Addr) (c : Nat) (n : Nat), e = .returned (.tuple #[.slice p 0 c, .int .i64 (n : Nat), .int .i64 3])) ∧ Keeps (fun _ => False) w w' :=
  (rWords_any s w hs).mono fun e w' h' => by
    have hE : lexWords s.data.toList = ([], s.data.toList.length - m, 3) := by unfold lexWords; rw [h.out]
    unfold WordsPost at h'; rw [hE] at h'
    obtain ⟨p, c, he, _, hk⟩ := h'
    exact ⟨⟨p, c, _, he⟩, hk⟩
/-- words behind the first one -/
theorem OwnStrs.tail {w0 w : World} {p : Option Addr} {n c : Nat} {x : List UInt8} {xs : List (List UInt8)} (h : OwnStrs w0 w (.slice p n c) (x :: xs)) (hn : n = xs.length + 1) :
    ∃ g, p = some ⟨g, 0, none⟩ ∧ n ≤ c ∧ w.cell? ⟨g, 0, none⟩ = some (strv x) ∧ ∀ q, q = (if c = 1 then some (⟨g, 0, none⟩ : Addr) else some ⟨g, 1, none⟩) → StrsC w (.slice q xs.length (c - 1)) xs := by
  rcases h.1.2 with ⟨h1, h2⟩ | ⟨g, cap, cur, he, _, _, hle, _⟩
  · simp at h2
  · injection he with e1 e2 e3
    subst e1; subst e3
    have hc : ∀ j u, ((x :: xs).map strv)[j]? = some u → w.cell? ⟨g, j, none⟩ = some u := fun j u hu => by
      have := h.1.cells (g := g) rfl j u hu
      rw [Addr.add_mid] at this; simpa using this
    simp only [List.length_cons] at hle
    refine ⟨g, rfl, by omega, hc 0 _ rfl, ?_⟩
    rintro q rfl
    refine ⟨_, _, rfl, by omega, fun h0 => ⟨g, 1, by rw [if_neg (by omega)], fun j u hu => ?_⟩⟩
    have := hc (j + 1) u (by simpa using hu)
    rw [Nat.add_comm 1 j]; exact this
/-- what Read answers -/
def ReadPost (f : Option CmdD) (w : World) (e : Ending) (w' : World) : Prop :=
  (match f with
  | some c => e = .returned (.tuple #[.agg #[.int .i64 c.what, .int .i64 c.head, strv c.name, strv c.leaf, strv c.value, .int .i64 c.n], .int .i64 0])
  | none => e = .returned (.tuple #[.agg #[.int .i64 0, .int .i64 0, .string ⟨#[]⟩, .string ⟨#[]⟩, .string ⟨#[]⟩, .int .i64 0], .int .i64 3])) ∧ Keeps (fun _ => False) w w'
theorem command_b (s : ByteArray) (v : Value) (ws : List (List UInt8)) (b : Bool) (w : World) (ht : Hid (VerbsOk w)) (hv : Hid (StrsC w v ws)) (hs : Hid (∀ x ∈ ws, x.length ≤ 9223372036854775807)) (hn : ws.length ≤ 1000000) (hb : Hid ((cmdD s.data.toList ws).isSome = b)) :
    Calls Tryz.prog 56 #[.string s, v] w fun e w' => ∃ (a h : Int) (N L V : ByteArray) (n : Int), e = .returned (.tuple #[.agg #[.int .i64 a, .int .i64 h, .string N, .string L, .string V, .int .i64 n], .bool b]) ∧ Keeps (fun _ => False) w w' ∧
    (∀ c, cmdD s.data.toList ws = some c → a = c.what ∧ h = c.head ∧ N.data.toList = c.name ∧ L.data.toList = c.leaf ∧ V.data.toList = c.value ∧ n = c.n) :=
  (command_any s v ws w ht hv hs hn).mono fun e w' ⟨a, h, N, L, V, n, he, hk, hx⟩ => ⟨a, h, N, L, V, n, by rw [he, hb.out], hk, hx⟩
theorem strv_of {N : ByteArray} {l : List UInt8} (h : N.data.toList = l) : Value.string N = strv l := by subst h; rfl
set_option maxRecDepth 100000 in
set_option maxHeartbeats 1000000 in
theorem read_any (s : ByteArray) (w : World) (ht : Hid (VerbsOk w)) (hs : s.size ≤ 1000000) : Calls Tryz.prog 19 #[.string s] w (ReadPost (readD s.data.toList) w) := by
  have ht0 := Lib.hid (ht.out.keep ((Keeps.refl (fun _ => False) w).alloc (.cells #[.int .i64 0, .int .i64 0, .string ⟨#[]⟩, .string ⟨#[]⟩, .string ⟨#[]⟩, .int .i64 0] 56)))
  have hB0 := Lib.hid (BlkAt.new w 56 [.int .i64 0, .int .i64 0, .string ⟨#[]⟩, .string ⟨#[]⟩, .string ⟨#[]⟩, .int .i64 0])
  have hK0 : Hid (Keeps (fun _ => False) w (w.alloc (.cells #[.int .i64 0, .int .i64 0, .string ⟨#[]⟩, .string ⟨#[]⟩, .string ⟨#[]⟩, .int .i64 0] 56))) := Lib.hid ((Keeps.refl _ _).alloc _)
  cases hl : lexL s.data.toList with
  | bad m =>
    have hr : readD s.data.toList = none := by unfold readD; rw [hl]
    rw [hr]
    have hl' := Lib.hid hl; clear hl hr ht
    go_enter Tryz.func19, Tryz.ntmps19
    go_wp2_with fail
    refine (words_bad s m _ (by omega) hl').mono ?_
    rintro e w1 ⟨⟨p, c, n, rfl⟩, k1⟩
    have hB1 := Lib.hid (hB0.out.keep k1 id); have hK1 := Lib.hid (hK0.out.trans k1)
    clear k1 hB0
    go_wp2_with ((with_reducible refine at_store 2 ?_); refine wpList_store_blk rfl 56 (.tmp 2) (.tmp 22) rfl w.heap.size #[.int .i64 0, .int .i64 0, .string ⟨#[]⟩, .string ⟨#[]⟩, .string ⟨#[]⟩, .int .i64 0] rfl rfl (BlkAt.there (hB1.out) 0 6 (Nat.le_refl 6)) cmdInfo (cmd_one _ _ _ _ _ _) ?_; intro w9 hr9 hs9)
    refine bodyPost_ret (v := .tuple #[.agg #[.int .i64 0, .int .i64 0, .string ⟨#[]⟩, .string ⟨#[]⟩, .string ⟨#[]⟩, .int .i64 0], .int .i64 3]) (ret_cell_tmp Tryz.results19 _ _ w.heap.size [.int .i64 0, .int .i64 0, .string ⟨#[]⟩, .string ⟨#[]⟩, .string ⟨#[]⟩, .int .i64 0] _ rfl hr9.out Tryz.underlying56 rfl cmdInfo) rfl ?_
    exact ⟨rfl, hK1.out.trans' hs9.out (fun i e => .inr (by omega))⟩
  | ok l =>
    have hbd := lexL_bounds hl
    have hll : s.data.toList.length = s.size := by simp
    have hl' := Lib.hid hl
    cases l with
    | nil =>
      have hr : readD s.data.toList = none := by unfold readD; rw [hl]; rfl
      rw [hr]
      clear hl hr ht hbd
      go_enter Tryz.func19, Tryz.ntmps19
      go_wp2_with fail
      refine (words_ok s [] _ (by omega) hl').mono ?_
      rintro e w1 ⟨p, c, rfl, _, k1⟩
      have hB1 := Lib.hid (hB0.out.keep k1 id); have hK1 := Lib.hid (hK0.out.trans k1)
      clear k1 hB0
      go_wp2_with ((with_reducible refine at_store 2 ?_); refine wpList_store_blk rfl 56 (.tmp 2) (.tmp 22) rfl w.heap.size #[.int .i64 0, .int .i64 0, .string ⟨#[]⟩, .string ⟨#[]⟩, .string ⟨#[]⟩, .int .i64 0] rfl rfl (BlkAt.there (hB1.out) 0 6 (Nat.le_refl 6)) cmdInfo (cmd_one _ _ _ _ _ _) ?_; intro w9 hr9 hs9)
      refine bodyPost_ret (v := .tuple #[.agg #[.int .i64 0, .int .i64 0, .string ⟨#[]⟩, .string ⟨#[]⟩, .string ⟨#[]⟩, .int .i64 0], .int .i64 3]) (ret_cell_tmp Tryz.results19 _ _ w.heap.size [.int .i64 0, .int .i64 0, .string ⟨#[]⟩, .string ⟨#[]⟩, .string ⟨#[]⟩, .int .i64 0] _ rfl hr9.out Tryz.underlying56 rfl cmdInfo) rfl ?_
      exact ⟨rfl, hK1.out.trans' hs9.out (fun i e => .inr (by omega))⟩
    | cons x xs =>
      have hr : readD s.data.toList = cmdD x xs := by unfold readD; rw [hl]; rfl
      rw [hr]
      simp only [List.length_cons, List.mem_cons] at hbd
      have hxn : xs.length ≤ 1000000 := by omega
      have hxs : Hid (∀ y ∈ xs, y.length ≤ 9223372036854775807) := Lib.hid fun y hy => by have := hbd.2 y (.inr hy); omega
      obtain ⟨X, hX⟩ : ∃ X : ByteArray, X = ⟨x.toArray⟩ := ⟨_, rfl⟩
      have hXl : X.data.toList = x := by rw [hX]
      obtain ⟨b, hb⟩ : ∃ b, (cmdD X.data.toList xs).isSome = b := ⟨_, rfl⟩
      have hb' := Lib.hid hb
      have hX' := Lib.hid hX; have hXl' := Lib.hid hXl
      obtain ⟨F, hF⟩ : ∃ F, cmdD x xs = F := ⟨_, rfl⟩
      rw [hF]
      have hF' := Lib.hid hF
      clear hl hr ht hbd hb hX hXl hF
      go_enter Tryz.func19, Tryz.ntmps19
      go_wp2_with fail
      refine (words_ok s (x :: xs) _ (by omega) hl').mono ?_
      rintro e w1 ⟨p, c, rfl, ho, k1⟩
      rw [List.length_cons] at ho ⊢
      obtain ⟨g, rfl, hnc, hc0, htail⟩ := ho.tail rfl
      have hB1 := Lib.hid (hB0.out.keep k1 id); have hK1 := Lib.hid (hK0.out.trans k1); have ht1 := Lib.hid (ht0.out.keep k1)
      obtain ⟨q, hq⟩ : ∃ q, (if c = 1 then some (⟨g, 0, none⟩ : Addr) else some ⟨g, 1, none⟩) = q := ⟨_, rfl⟩
      have hT1 := Lib.hid (htail q hq.symm)
      have hq' := Lib.hid hq
      have hcX : Hid (w1.cell? ⟨g, 0, none⟩ = some (.string X)) := Lib.hid (by rw [hX'.out]; exact hc0)
      clear k1 hB0 ht0 hK0 ho htail hq hc0
      go_upto_region 4 with fail
      refine wp_region_noPanic ?_
      refine wp_region_held_drew (S := (fun W => Keeps (fun _ => False) w1 W)) (by kernel_rfl) (((Keeps.refl _ _).drew)) (fun hHeld => ?_)
      have h1le : (1 : Int) ≤ (xs.length : Int) + 1 := by omega
      refine tk 0 rfl ?_
      refine tk 1 rfl ?_
      refine tkL 2 rfl (yieldsIf_load_cell (by rfl) 9 (.tmp 25) rfl g 0 rfl _ (fun _ s => s.cell0 hcX.out) (fun w s => load_strp w _ _ _ s)) ?_
      refine tk 3 rfl ?_
      refine tk 4 rfl ?_
      rw [hq'.out]
      refine step2L 5 9 rfl rfl (by kernel_rfl) (fun K hK => ?_) (fun K hK => ?_)
      · skip
        go_simp
        (refine (command_b X _ xs b _ (Lib.hid (ht1.out.keep hHeld)) (Lib.hid (hT1.out.keep hHeld)) hxs hxn hb').mono ?_; rintro e w4 ⟨a, h, N, L, V, n, rfl, k4, hx⟩; have hB4 := Lib.hid (hB1.out.keep (hHeld.trans k4) id); have hh4 := Lib.hid (hHeld.trans k4); have hx' := Lib.hid hx; have k4' := Lib.hid k4; clear k4 hx)
        go_wp2_with fail
        refine hK.out _ _ (hHeld.trans k4'.out) (fun hHeld => ?_)
        clear hK K
        try simp only [Act.put, sA, sZ, sS]
        have hsz4 : w1.heap.size ≤ w4.heap.size := hh4.out.size
        refine tk 6 rfl ?_
        refine tk 7 rfl ?_
        refine tk 8 rfl ?_
        refine stepL 9 rfl (by kernel_rfl) (fun K hK => ?_)
        go_simp
        refine hK.out _ _ ((hHeld.alloc _)) (fun hHeld => ?_)
        clear hK K
        try simp only [Act.put, sA, sZ, sS]
        refine stepL 10 rfl (by kernel_rfl) (fun K hK => ?_)
        rw [if_pos (by rfl)]
        (refine wp_store_mid 56 (.tmp 7) (.tmp 30) rfl w4.heap.size 0 #[.int .i64 a, .int .i64 h, .string N, .string L, .string V, .int .i64 n] rfl rfl (BlkAt.there (BlkAt.new w4 56 [.int .i64 0, .int .i64 0, .string ⟨#[]⟩, .string ⟨#[]⟩, .string ⟨#[]⟩, .int .i64 0]) 0 6 (Nat.le_refl 6)) cmdInfo (cmd_one _ _ _ _ _ _) ?_; have hs5 : Keeps (fun _ => False) w1 ((w4.alloc (.cells #[.int .i64 0, .int .i64 0, .string ⟨#[]⟩, .string ⟨#[]⟩, .string ⟨#[]⟩, .int .i64 0] 56)).setCells w4.heap.size 0 [.int .i64 a, .int .i64 h, .string N, .string L, .string V, .int .i64 n]) := Keeps.setCells (.inr (by omega)) _ _ _ hHeld; have hr5 : ((w4.alloc (.cells #[.int .i64 0, .int .i64 0, .string ⟨#[]⟩, .string ⟨#[]⟩, .string ⟨#[]⟩, .int .i64 0] 56)).setCells w4.heap.size 0 [.int .i64 a, .int .i64 h, .string N, .string L, .string V, .int .i64 n]).rangeAt w4.heap.size 0 [.int .i64 a, .int .i64 h, .string N, .string L, .string V, .int .i64 n] := World.rangeAt_setCells_same _ _ _ _ (BlkAt.there (BlkAt.new w4 56 [.int .i64 0, .int .i64 0, .string ⟨#[]⟩, .string ⟨#[]⟩, .string ⟨#[]⟩, .int .i64 0]) 0 6 (Nat.le_refl 6)); have hB5 := Lib.hid (hB1.out.keep hs5 id); simp only [] at hs5 hr5 hB5 ⊢; generalize (w4.alloc (.cells #[.int .i64 0, .int .i64 0, .string ⟨#[]⟩, .string ⟨#[]⟩, .string ⟨#[]⟩, .int .i64 0] 56)).setCells w4.heap.size 0 [.int .i64 a, .int .i64 h, .string N, .string L, .string V, .int .i64 n] = w5 at hs5 hr5 hB5 ⊢)
        refine hK.out _ _ (hs5) (fun hHeld => ?_)
        clear hK K
        try simp only [Act.put, sA, sZ, sS]
        refine tk 11 rfl ?_
        refine wpAnyH_done (by kernel_rfl) (NoPanic.normal ?_) _
        have hr5' := Lib.hid hr5
        have hK5 := Lib.hid (hK1.out.trans hHeld)
        clear hr5 hs5 hHeld hB1 hK1 ht1 hT1 hcX
        cases b with
        | false =>
          go_wp2_with ((with_reducible refine at_store 2 ?_); refine wpList_store_blk rfl 56 (.tmp 2) (.tmp 34) rfl w.heap.size #[.int .i64 0, .int .i64 0, .string ⟨#[]⟩, .string ⟨#[]⟩, .string ⟨#[]⟩, .int .i64 0] rfl rfl (BlkAt.there (hB5.out) 0 6 (Nat.le_refl 6)) cmdInfo (cmd_one _ _ _ _ _ _) ?_; intro w9 hr9 hs9)
          refine bodyPost_ret (v := .tuple #[.agg #[.int .i64 0, .int .i64 0, .string ⟨#[]⟩, .string ⟨#[]⟩, .string ⟨#[]⟩, .int .i64 0], .int .i64 3]) (ret_cell_tmp Tryz.results19 _ _ w.heap.size [.int .i64 0, .int .i64 0, .string ⟨#[]⟩, .string ⟨#[]⟩, .string ⟨#[]⟩, .int .i64 0] _ rfl hr9.out Tryz.underlying56 rfl cmdInfo) rfl ?_
          rw [show F = none by rw [← hF'.out, ← hXl'.out]; simpa using hb'.out]
          exact ⟨rfl, hK5.out.trans' hs9.out (fun i e => .inr (by omega))⟩
        | true =>
          go_wp2_with (first | ((with_reducible refine at_slot 35 ?_); refine wpList_load_mid rfl 56 (.tmp 7) rfl w4.heap.size 0 rfl [.int .i64 a, .int .i64 h, .string N, .string L, .string V, .int .i64 n] _ hr5'.out Tryz.underlying56 rfl cmdInfo ?_) | ((with_reducible refine at_store 2 ?_); refine wpList_store_blk rfl 56 (.tmp 2) (.tmp 35) rfl w.heap.size #[.int .i64 a, .int .i64 h, .string N, .string L, .string V, .int .i64 n] rfl rfl (BlkAt.there (hB5.out) 0 6 (Nat.le_refl 6)) cmdInfo (cmd_one _ _ _ _ _ _) ?_; intro w9 hr9 hs9))
          refine bodyPost_ret (v := .tuple #[.agg #[.int .i64 a, .int .i64 h, .string N, .string L, .string V, .int .i64 n], .int .i64 0]) (ret_cell_tmp Tryz.results19 _ _ w.heap.size [.int .i64 a, .int .i64 h, .string N, .string L, .string V, .int .i64 n] _ rfl hr9.out Tryz.underlying56 rfl cmdInfo) rfl ?_
          obtain ⟨f, hf⟩ := Option.isSome_iff_exists.1 hb'.out
          obtain ⟨e1, e2, e3, e4, e5, e6⟩ := hx'.out f hf
          rw [show F = some f by rw [← hF'.out, ← hXl'.out]; exact hf]
          refine ⟨?_, hK5.out.trans' hs9.out (fun i e => .inr (by omega))⟩
          simp only [e1, e2, e6, strv_of e3, strv_of e4, strv_of e5]
      · skip
        go_simp
        refine hK.out _ _ ((hHeld.alloc _)) (fun hHeld => ?_)
        clear hK K
        try simp only [Act.put, sA, sZ, sS]
        have hB7 := Lib.hid (BlkAt.new w1.drew 56 [.int .i64 0, .int .i64 0, .string ⟨#[]⟩, .string ⟨#[]⟩, .string ⟨#[]⟩, .int .i64 0])
        refine stepL 5 rfl (by kernel_rfl) (fun K hK => ?_)
        go_simp
        (refine (command_b X _ xs b _ (Lib.hid (ht1.out.keep hHeld)) (Lib.hid (hT1.out.keep hHeld)) hxs hxn hb').mono ?_; rintro e w4 ⟨a, h, N, L, V, n, rfl, k4, hx⟩; have hB4 := Lib.hid (hB1.out.keep (hHeld.trans k4) id); have hh4 := Lib.hid (hHeld.trans k4); have hx' := Lib.hid hx; have k4' := Lib.hid k4; clear k4 hx)
        go_wp2_with fail
        refine hK.out _ _ ((hHeld.trans k4'.out)) (fun hHeld => ?_)
        clear hK K
        try simp only [Act.put, sA, sZ, sS]
        have hB8 := Lib.hid (hB7.out.keep k4'.out id)
        refine tk 6 rfl ?_
        refine tk 7 rfl ?_
        refine tk 8 rfl ?_
        refine stepL 10 rfl (by kernel_rfl) (fun K hK => ?_)
        rw [if_pos (by rfl)]
        (refine wp_store_mid 56 (.tmp 7) (.tmp 30) rfl w1.heap.size 0 #[.int .i64 a, .int .i64 h, .string N, .string L, .string V, .int .i64 n] rfl rfl (BlkAt.there (hB8.out) 0 6 (Nat.le_refl 6)) cmdInfo (cmd_one _ _ _ _ _ _) ?_; have hs5 : Keeps (fun _ => False) w1 ((w4).setCells w1.heap.size 0 [.int .i64 a, .int .i64 h, .string N, .string L, .string V, .int .i64 n]) := Keeps.setCells (.inr (by omega)) _ _ _ hHeld; have hr5 : ((w4).setCells w1.heap.size 0 [.int .i64 a, .int .i64 h, .string N, .string L, .string V, .int .i64 n]).rangeAt w1.heap.size 0 [.int .i64 a, .int .i64 h, .string N, .string L, .string V, .int .i64 n] := World.rangeAt_setCells_same _ _ _ _ (BlkAt.there (hB8.out) 0 6 (Nat.le_refl 6)); have hB5 := Lib.hid (hB1.out.keep hs5 id); simp only [] at hs5 hr5 hB5 ⊢; generalize (w4).setCells w1.heap.size 0 [.int .i64 a, .int .i64 h, .string N, .string L, .string V, .int .i64 n] = w5 at hs5 hr5 hB5 ⊢)
        refine hK.out _ _ (hs5) (fun hHeld => ?_)
        clear hK K
        try simp only [Act.put, sA, sZ, sS]
        refine tk 11 rfl ?_
        refine wpAnyH_done (by kernel_rfl) (NoPanic.normal ?_) _
        have hr5' := Lib.hid hr5
        have hK5 := Lib.hid (hK1.out.trans hHeld)
        clear hr5 hs5 hHeld hB1 hK1 ht1 hT1 hcX
        cases b with
        | false =>
          go_wp2_with ((with_reducible refine at_store 2 ?_); refine wpList_store_blk rfl 56 (.tmp 2) (.tmp 34) rfl w.heap.size #[.int .i64 0, .int .i64 0, .string ⟨#[]⟩, .string ⟨#[]⟩, .string ⟨#[]⟩, .int .i64 0] rfl rfl (BlkAt.there (hB5.out) 0 6 (Nat.le_refl 6)) cmdInfo (cmd_one _ _ _ _ _ _) ?_; intro w9 hr9 hs9)
          refine bodyPost_ret (v := .tuple #[.agg #[.int .i64 0, .int .i64 0, .string ⟨#[]⟩, .string ⟨#[]⟩, .string ⟨#[]⟩, .int .i64 0], .int .i64 3]) (ret_cell_tmp Tryz.results19 _ _ w.heap.size [.int .i64 0, .int .i64 0, .string ⟨#[]⟩, .string ⟨#[]⟩, .string ⟨#[]⟩, .int .i64 0] _ rfl hr9.out Tryz.underlying56 rfl cmdInfo) rfl ?_
          rw [show F = none by rw [← hF'.out, ← hXl'.out]; simpa using hb'.out]
          exact ⟨rfl, hK5.out.trans' hs9.out (fun i e => .inr (by omega))⟩
        | true =>
          go_wp2_with (first | ((with_reducible refine at_slot 35 ?_); refine wpList_load_mid rfl 56 (.tmp 7) rfl w1.heap.size 0 rfl [.int .i64 a, .int .i64 h, .string N, .string L, .string V, .int .i64 n] _ hr5'.out Tryz.underlying56 rfl cmdInfo ?_) | ((with_reducible refine at_store 2 ?_); refine wpList_store_blk rfl 56 (.tmp 2) (.tmp 35) rfl w.heap.size #[.int .i64 a, .int .i64 h, .string N, .string L, .string V, .int .i64 n] rfl rfl (BlkAt.there (hB5.out) 0 6 (Nat.le_refl 6)) cmdInfo (cmd_one _ _ _ _ _ _) ?_; intro w9 hr9 hs9))
          refine bodyPost_ret (v := .tuple #[.agg #[.int .i64 a, .int .i64 h, .string N, .string L, .string V, .int .i64 n], .int .i64 0]) (ret_cell_tmp Tryz.results19 _ _ w.heap.size [.int .i64 a, .int .i64 h, .string N, .string L, .string V, .int .i64 n] _ rfl hr9.out Tryz.underlying56 rfl cmdInfo) rfl ?_
          obtain ⟨f, hf⟩ := Option.isSome_iff_exists.1 hb'.out
          obtain ⟨e1, e2, e3, e4, e5, e6⟩ := hx'.out f hf
          rw [show F = some f by rw [← hF'.out, ← hXl'.out]; exact hf]
          refine ⟨?_, hK5.out.trans' hs9.out (fun i e => .inr (by omega))⟩
          simp only [e1, e2, e6, strv_of e3, strv_of e4, strv_of e5]
end Go.Proofs.YtdannodhlaaoiaaGreatDoor
/- A text that is read: block, part, Text, walked. -/
set_option linter.unusedVariables false
set_option linter.unusedSimpArgs false
namespace Go.Proofs.YtdannodhlaaoiaaGreatDoor
open Go.RowKit

theorem named_k (head : Int) (s : ByteArray) (r : Bool) (w : World) (hs : s.size ≤ 9223372036854775807) (hr : Hid (namedB head s.data.toList = r)) :
    Calls Tryz.prog 95 #[.int .i64 head, .string s] w (NewRes (.bool r) w) :=
  (named_any head s r w hs hr).mono fun e w' ⟨he, m, hw⟩ => ⟨he, by rw [hw]; exact (Keeps.refl _ _).drewN _⟩
def wordsLeft (gr : Nat) (W : World) : Nat := match W.cell? ⟨gr, 0, none⟩ with | some (.slice _ n _) => n | _ => 0
theorem RdS.left {gr : Nat} {w0 W : World} {p pc : Option Addr} {c cc : Nat} {ws : List (List UInt8)} {s : StP} (h : RdS gr w0 W p pc c cc ws s) : wordsLeft gr W = ws.length := by
  unfold wordsLeft; rw [h.blk.cell 0 _ rfl]

set_option maxRecDepth 100000 in
set_option maxHeartbeats 16000000 in
theorem pBlock_any (gr : Nat) (w0 : World) (p pc : Option Addr) (c cc : Nat) (h : Int) (ws : List (List UInt8)) (s : StP) (W : World) (hS : Hid (RdS gr w0 W p pc c cc ws s))
    (hne : 0 < ws.length) (hh : Hid (∀ a, ws[0]? = some a → headD a = h)) (h0 : Hid (h ≠ 0)) :
    Calls Tryz.prog 70 #[.pointer (some ⟨gr, 0, none⟩), .int .i64 h] W (StepPostT gr w0 none ws s) := by
  obtain ⟨C, f⟩ := s
  obtain ⟨p9, c9, e9, hcap, hr0⟩ := hS.out.words
  injection e9 with e1 e2 e3
  subst e1; subst e3
  obtain ⟨g, o2, rfl, hr⟩ := hr0 hne
  have hrW := Lib.hid (hS.out.k.rangeAt hr id)
  have hr' := Lib.hid hr
  have hcap' := Lib.hid hcap
  clear e2 hr0 hr hcap
  have b0 := hS.out.blk.cell 0 _ rfl
  try simp only at b0
  by_cases hl3 : ws.length < 3
  · have m1 : (ws.length : Int) < 3 := by omega
    have hans : Hid (textD none ws (C, f) = none) := Lib.hid (by
      match ws, hl3, hne, hh.out with
      | [a], _, _, hh => exact textD_noblock (by rw [hh a rfl]; exact h0.out) (fun b c r2 e => by cases e)
      | [a, b], _, _, hh => exact textD_noblock (by rw [hh a rfl]; exact h0.out) (fun b c r2 e => by cases e))
    have hk := Lib.hid hS.out.k
    go_enter Tryz.func70, Tryz.ntmps70
    go_wp2_with fail
    go_ret
    exact ⟨false, rfl, hk.out, fun _ => hans.out, fun e => by cases e⟩
  · have m1 : ¬ (ws.length : Int) < 3 := by omega
    have m2 : (2 : Int) < (ws.length : Int) := by omega
    have m3 : (1 : Int) < (ws.length : Int) := by omega
    obtain ⟨a, b, d, r2, hws⟩ : ∃ a b d r2, ws = a :: b :: d :: r2 := by
      match ws, hl3 with
      | [], h => exact absurd (by simp) h
      | [_], h => exact absurd (by simp) h
      | [_, _], h => exact absurd (by simp) h
      | a :: b :: d :: r2, _ => exact ⟨a, b, d, r2, rfl⟩
    have hws' := Lib.hid hws
    obtain ⟨B, hB⟩ : ∃ X : ByteArray, X = ⟨b.toArray⟩ := ⟨_, rfl⟩
    obtain ⟨D, hD⟩ : ∃ X : ByteArray, X = ⟨d.toArray⟩ := ⟨_, rfl⟩
    have c1 : W.cell? ⟨g, o2 + 1, none⟩ = some (.string B) := by have := word_cell hrW.out 1 b (by rw [hws]; rfl); rw [hB]; exact this
    have hDe := ba_eq D [123] d hD
    have sB : B.size ≤ 9223372036854775807 := by
      have := hS.out.small b (by rw [hws]; simp)
      rw [hB]; show b.length ≤ _; omega
    have hha : Hid (headD a = h) := Lib.hid (hh.out a (by rw [hws]; rfl))
    have hBd : Hid (B.data.toList = b) := Lib.hid (by rw [hB])
    have hcD : Hid (W.cell? ⟨g, o2 + 2, none⟩ = some (.string D)) := Lib.hid (by have := word_cell hrW.out 2 d (by rw [hws]; rfl); rw [hD]; exact this)
    clear hws hB hD hl3
    obtain ⟨z, hz⟩ : ∃ z, namedB h B.data.toList = z := ⟨_, rfl⟩
    have hz' := Lib.hid hz
    clear hz
    go_enter Tryz.func70, Tryz.ntmps70
    go_wp2_with fail
    refine (named_k h B z _ sB hz').mono ?_
    rintro e w2 ⟨rfl, k2⟩
    have hS2 := Lib.hid (hS.out.next k2)
    have hc1 := Lib.hid ((k2.cell (p := ⟨g, o2 + 1, none⟩) (World.block_lt_of_cell? W _ c1) id).trans c1)
    have hc2 := Lib.hid ((k2.cell (p := ⟨g, o2 + 2, none⟩) (World.block_lt_of_cell? W _ hcD.out) id).trans hcD.out)
    clear k2 b0 c1 hcD hrW
    cases z with
    | false =>
      have hans : Hid (textD none ws (C, f) = none) := Lib.hid (by
        rw [hws'.out]
        refine textD_noblock (by rw [hha.out]; exact h0.out) (fun b2 c r3 e hc => ?_)
        injection e with e3 e4
        rw [← e3, hha.out, ← hBd.out]; exact hz'.out)
      have hk := Lib.hid hS2.out.k
      clear hDe
      go_wp2_with fail
      go_ret
      exact ⟨false, rfl, hk.out, fun _ => hans.out, fun e => by cases e⟩
    | true =>
      by_cases hd : d = [123]
      · have e2 : (D.toList == [123]) = true := by rw [hDe]; simp [hd]
        have hd' := Lib.hid hd
        clear hd hDe
        have b0 := hS2.out.blk.cell 0 _ rfl
        try simp only at b0
        have b1 := hc1.out
        have b2 := hc2.out
        have f0 := hS2.out.blk.frozen 0
        have m5 : (3 : Int) ≤ (ws.length : Int) := by omega
        have m6 : (ws.length : Int) ≤ (c : Int) := by have := hcap'.out; omega
        obtain ⟨p7, hp7⟩ : ∃ pp, (if c = 3 then some (⟨g, o2, none⟩ : Addr) else some ⟨g, o2 + 3, none⟩) = pp := ⟨_, rfl⟩
        obtain ⟨vs, hvs⟩ : ∃ vs, vs = ws.drop 3 := ⟨_, rfl⟩
        have hvl : vs.length = ws.length - 3 := by rw [hvs, List.length_drop]
        have hvlt : vs.length < ws.length := by omega
        have hst := strs_tail hr'.out hcap'.out 3 (by omega)
        rw [hp7, ← hvs, ← hvl] at hst
        have hS3 := Lib.hid (hS2.out.read hst (fun x hx => by rw [hvs] at hx; exact List.mem_of_mem_drop hx))
        have hstart : Hid (textD none ws (C, f) = textD (some (h, b)) vs (C, f)) := Lib.hid (by
          rw [hvs, hws'.out, hd'.out]
          show textD none (a :: b :: opnW :: r2) (C, f) = _
          rw [textD_block (by rw [hha.out]; exact h0.out) (by rw [hha.out, ← hBd.out]; exact hz'.out), hha.out]
          rfl)
        have hnb : Hid (namedB h b = true) := Lib.hid (by rw [← hBd.out]; exact hz'.out)
        have hvs' := Lib.hid hvs
        have hvl' := Lib.hid hvl
        clear hst hvs hvl hS2 hS hc1 hc2
        go_wp2_with fail
        rw [← hvl'.out]
        clear b0 b1 b2 f0 e2 m1 m2 m3 m5 m6 hp7
        generalize w2.setCell ⟨gr, 0, none⟩ (.slice p7 vs.length (c - 3)) = W3 at hS3 ⊢
        go_loopw [] (fun wr => ∃ (q pd : Option Addr) (d dd : Nat) (us : List (List UInt8)) (s2 : StP), us.length < ws.length ∧ Hid (textD none ws (C, f) = textD (some (h, b)) us s2) ∧ Hid (RdS gr w0 wr q pd d dd us s2)) (fun wr => wordsLeft gr wr)
        case atStart => exact ⟨_, _, _, _, vs, (C, f), hvlt, hstart, hS3⟩
        case round =>
          obtain ⟨q, pd, d3, dd, us, ⟨C2, f2⟩, hul, htx, hSr⟩ := hrel
          have b0 := hSr.out.blk.cell 0 _ rfl
          try simp only at b0
          have hleft := Lib.hid hSr.out.left
          cases us with
          | nil =>
            have hans : Hid (textD none ws (C, f) = none) := Lib.hid (by rw [htx.out]; exact textD_nilO _ _)
            have hk := Lib.hid hSr.out.k
            simp only [List.length_nil] at b0
            go_wp2_with fail
            go_ret
            exact ⟨false, rfl, hk.out, fun _ => hans.out, fun e => by cases e⟩
          | cons x us =>
            obtain ⟨p9, c9, e9, hcp, hrr0⟩ := hSr.out.words
            injection e9 with e1 e2 e3
            subst e1; subst e3
            obtain ⟨g3, o3, rfl, hrr⟩ := hrr0 (by simp)
            simp only [List.length_cons] at b0 hcp
            obtain ⟨X, hX⟩ : ∃ X : ByteArray, X = ⟨x.toArray⟩ := ⟨_, rfl⟩
            have cx : wr.cell? ⟨g3, o3, none⟩ = some (.string X) := by have := word_cell (hSr.out.k.rangeAt hrr id) 0 x rfl; rw [hX]; exact this
            have hXe := ba_eq X [125] x hX
            have n1 : (0 : Int) < (us.length : Int) + 1 := by omega
            have n2 : ((us.length : Int) + 1 == 0) = false := by simp; omega
            have hrr' := Lib.hid hrr
            have hcp' := Lib.hid hcp
            clear e2 hrr0 hrr hcp hX
            by_cases hx : x = [125]
            · have e2 : (X.toList == [125]) = true := by rw [hXe]; simp [hx]
              have f0 := hSr.out.blk.frozen 0
              have n3 : (1 : Int) ≤ (us.length : Int) + 1 := by omega
              have n4 : (us.length : Int) + 1 ≤ (d3 : Int) := by have := hcp'.out; omega
              obtain ⟨p8, hp8⟩ : ∃ pp, (if d3 = 1 then some (⟨g3, o3, none⟩ : Addr) else some ⟨g3, o3 + 1, none⟩) = pp := ⟨_, rfl⟩
              have hst := strs_tail hrr'.out hcp'.out 1 (by simp)
              rw [hp8] at hst
              have hst2 : StrsC w0 (.slice p8 us.length (d3 - 1)) us := by simpa using hst
              have hS4 := Lib.hid (hSr.out.read hst2 (fun y hy => List.mem_cons_of_mem _ hy))
              have hans : Hid (textD none ws (C, f) = textD none us (C2, f2)) := Lib.hid (by rw [htx.out, hx]; exact textD_close _ _ _)
              have hul2 : us.length < ws.length := by simp at hul; omega
              clear hx hXe hst hst2
              go_wp2_with fail
              go_ret
              exact ⟨true, rfl, hS4.out.k, (fun e => by cases e), fun _ => ⟨us, _, hans.out, hul2, _, _, _, _, hS4.out⟩⟩
            · have e2 : (X.toList == [125]) = false := by rw [hXe]; simp [hx]
              have hx' := Lib.hid hx
              clear hx hXe
              go_wp2_with fail
              refine (pLine_any gr w0 _ _ _ _ (some (h, b)) h B (x :: us) (C2, f2) _ hSr sB (Lib.hid (fun a2 b2 => by unfold atL; rw [hBd.out])) (by simp) (Lib.hid (fun a2 e _ => by simp at e; rw [← e]; exact hx'.out)) (Lib.hid (fun a2 e e2 => by cases e2)) (Lib.hid (fun p e => by injection e with e; rw [← e]; exact hnb.out))).mono ?_
              rintro e w5 ⟨z, rfl, k5, hf5, ht5⟩
              cases z with
              | false =>
                have hans : Hid (textD none ws (C, f) = none) := Lib.hid (by rw [htx.out]; exact hf5 rfl)
                have hk := Lib.hid k5
                clear k5 hf5 ht5
                go_wp2_with fail
                go_ret
                exact ⟨false, rfl, hk.out, fun _ => hans.out, fun e => by cases e⟩
              | true =>
                obtain ⟨vs2, s3, hte, hvl2, qa, qb, da, db, hS6⟩ := ht5 rfl
                have hte2 := Lib.hid (htx.out.trans hte)
                have hS6' := Lib.hid hS6
                have hmeas : Hid (wordsLeft gr w5 < wordsLeft gr wr) := Lib.hid (by rw [hS6.left, hleft.out]; exact hvl2)
                have hvl3 : vs2.length < ws.length := Nat.lt_trans hvl2 hul
                clear k5 hf5 ht5 hte hS6
                go_wp2_with fail
                exact ⟨⟨_, _, _, _, vs2, s3, hvl3, hte2, hS6'⟩, hmeas.out⟩
      · have e2 : (D.toList == [123]) = false := by rw [hDe]; simp [hd]
        have b0 := hS2.out.blk.cell 0 _ rfl
        try simp only at b0
        have b2 := hc2.out
        have hans : Hid (textD none ws (C, f) = none) := Lib.hid (by
          rw [hws'.out]
          refine textD_noblock (by rw [hha.out]; exact h0.out) (fun b2 c r3 e hc => ?_)
          injection e with e3 e4
          injection e4 with e4 e5
          exact absurd (e4.trans hc) hd)
        have hk := Lib.hid hS2.out.k
        clear hd hDe
        go_wp2_with fail
        go_ret
        exact ⟨false, rfl, hk.out, fun _ => hans.out, fun e => by cases e⟩

set_option maxRecDepth 100000 in
set_option maxHeartbeats 8000000 in
theorem pPart_any (gr : Nat) (w0 : World) (p pc : Option Addr) (c cc : Nat) (ws : List (List UInt8)) (s : StP) (W : World) (hS : Hid (RdS gr w0 W p pc c cc ws s)) (hne : 0 < ws.length) :
    Calls Tryz.prog 24 #[.pointer (some ⟨gr, 0, none⟩)] W (StepPostT gr w0 none ws s) := by
  obtain ⟨C, f⟩ := s
  obtain ⟨p9, c9, e9, hcap, hr0⟩ := hS.out.words
  injection e9 with e1 e2 e3
  subst e1; subst e3
  obtain ⟨g, o2, rfl, hr⟩ := hr0 hne
  obtain ⟨a, r, rfl⟩ : ∃ a r, ws = a :: r := by
    cases ws with
    | nil => simp at hne
    | cons a r => exact ⟨a, r, rfl⟩
  obtain ⟨A, hA⟩ : ∃ X : ByteArray, X = ⟨a.toArray⟩ := ⟨_, rfl⟩
  have c0 : W.cell? ⟨g, o2, none⟩ = some (.string A) := by have := word_cell (hS.out.k.rangeAt hr id) 0 a rfl; rw [hA]; exact this
  have b0 := hS.out.blk.cell 0 _ rfl
  simp only [List.length_cons] at b0
  obtain ⟨h, hh⟩ : ∃ h, headD a = h := ⟨_, rfl⟩
  have hhA : Hid (headD A.data.toList = h) := Lib.hid (by rw [hA]; exact hh)
  have hh' := Lib.hid hh
  have n1 : (0 : Int) < (r.length : Int) + 1 := by omega
  clear e2 hr0 hr hcap hA hh
  obtain ⟨z, hz⟩ : ∃ z, decide (h ≠ 0) = z := ⟨_, rfl⟩
  have hz' := Lib.hid hz
  go_enter Tryz.func24, Tryz.ntmps24
  go_wp2_with fail
  refine (headOf_r A h z _ hhA hz').mono ?_
  rintro e w2 ⟨rfl, rfl⟩
  cases z with
  | true =>
    have h0 : Hid (h ≠ 0) := Lib.hid (by simpa using hz)
    clear hz
    go_wp2_with fail
    refine (pBlock_any gr w0 _ _ _ _ h (a :: r) (C, f) _ hS (by simp) (Lib.hid (fun x e => by simp at e; rw [← e]; exact hh'.out)) h0).mono ?_
    rintro e w3 ⟨z, rfl, k3, hf3, ht3⟩
    have hf3' := Lib.hid hf3
    have ht3' := Lib.hid ht3
    have k3' := Lib.hid k3
    clear k3 hf3 ht3
    go_wp2_with fail
    go_ret
    exact ⟨z, rfl, k3'.out, hf3'.out, ht3'.out⟩
  | false =>
    have h0 : h = 0 := by simpa using hz
    have hh0 : Hid (headD a = 0) := Lib.hid (by rw [hh'.out, h0])
    clear hz h0
    go_wp2_with fail
    refine (pLine_any gr w0 _ _ _ _ none 0 ⟨#[]⟩ (a :: r) (C, f) _ hS (by decide) (Lib.hid (fun a2 b2 => rfl)) (by simp) (Lib.hid (fun a2 e e2 => by cases e2)) (Lib.hid (fun a2 e _ => by simp at e; rw [← e]; exact hh0.out)) (Lib.hid (fun p e => by cases e))).mono ?_
    rintro e w3 ⟨z, rfl, k3, hf3, ht3⟩
    have hf3' := Lib.hid hf3
    have ht3' := Lib.hid ht3
    have k3' := Lib.hid k3
    clear k3 hf3 ht3
    go_wp2_with fail
    go_ret
    exact ⟨z, rfl, k3'.out, hf3'.out, ht3'.out⟩
end Go.Proofs.YtdannodhlaaoiaaGreatDoor
