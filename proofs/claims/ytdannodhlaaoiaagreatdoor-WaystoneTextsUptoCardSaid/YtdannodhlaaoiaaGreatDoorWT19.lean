/- command and Read, walked. -/
import Derived.Test.YtdannodhlaaoiaaGreatDoorWT14
set_option linter.unusedVariables false
set_option linter.unusedSimpArgs false
namespace Go.Proofs.YtdannodhlaaoiaaGreatDoor
open Go.RowKit

theorem setting_b (v : Value) (ws : List (List UInt8)) (b : Bool) (w : World) (hv : Hid (StrsC w v ws)) (hs : Hid (∀ x ∈ ws, x.length ≤ 9223372036854775807)) (hn : ws.length ≤ 1000000) (hb : Hid ((settingD ws).isSome = b)) :
    Calls Tryz.prog 92 #[v] w fun e w' => ∃ (a h : Int) (N L V : ByteArray) (n : Int), e = .returned (.tuple #[.agg #[.int .i64 a, .int .i64 h, .string N, .string L, .string V, .int .i64 n], .bool b]) ∧ Keeps (fun _ => False) w w' ∧
    (∀ c, settingD ws = some c → a = c.what ∧ h = c.head ∧ N.data.toList = c.name ∧ L.data.toList = c.leaf ∧ V.data.toList = c.value ∧ n = c.n) :=
  (setting_any v ws w hv hs hn).mono fun e w' ⟨a, h, N, L, V, n, he, hk, hx⟩ => ⟨a, h, N, L, V, n, by rw [he, hb.out], hk, hx⟩
theorem num_b (v : Value) (ws : List (List UInt8)) (lo hi : Int) (b : Bool) (w : World) (hv : Hid (StrsAt w v ws)) (hb : Hid ((numD ws lo hi).isSome = b)) :
    Calls Tryz.prog 94 #[v, .int .i64 lo, .int .i64 hi] w fun e w' => ∃ n : Int, e = .returned (.tuple #[.int .i64 n, .bool b]) ∧ w = w' ∧ ∀ m, numD ws lo hi = some m → n = m :=
  (num_any v ws lo hi w hv).mono fun e w' ⟨n, he, hw, hx⟩ => ⟨n, by rw [he, hb.out], hw, hx⟩
theorem verbOf_0 (s : ByteArray) (k : Nat) (z : Int) (w : World) (hv : Hid (VerbsOk w)) (hr : Hid (verbD s.data.toList = k)) (hz : Hid ((k : Int) = z)) :
    Calls Tryz.prog 91 #[.string s] w fun e w' => e = .returned (.int .i64 z) ∧ w = w' := by rw [← hz.out]; exact verbOf_any s k w hv hr
theorem cmd_post_none {w w' : World} {a h n : Int} {N L V : ByteArray} (hk : Keeps (fun _ => False) w w') : CmdPost none w (.returned (.tuple #[.agg #[.int .i64 a, .int .i64 h, .string N, .string L, .string V, .int .i64 n], .bool false])) w' := ⟨a, h, N, L, V, n, rfl, hk, fun _ h => by cases h⟩

set_option maxRecDepth 100000 in
set_option maxHeartbeats 1000000 in
theorem command_zero (s : ByteArray) (v : Value) (ws : List (List UInt8)) (w : World) (ht : Hid (VerbsOk w)) (hv : Hid (StrsC w v ws)) (hs : Hid (∀ x ∈ ws, x.length ≤ 9223372036854775807)) (hn : ws.length ≤ 1000000) (hk : Hid (verbD s.data.toList = 0)) :
    Calls Tryz.prog 56 #[.string s, v] w (CmdPost (none) w) := by
  have ht1 := Lib.hid (ht.out.keep ((Keeps.refl (fun _ => False) w).alloc (.cells #[.int .i64 0, .int .i64 0, .string ⟨#[]⟩, .string ⟨#[]⟩, .string ⟨#[]⟩, .int .i64 0] 56)))
  have hv1 := Lib.hid (hv.out.keep ((Keeps.refl (fun _ => False) w).alloc (.cells #[.int .i64 0, .int .i64 0, .string ⟨#[]⟩, .string ⟨#[]⟩, .string ⟨#[]⟩, .int .i64 0] 56)))
  have hB1 := Lib.hid (BlkAt.new w 56 [.int .i64 0, .int .i64 0, .string ⟨#[]⟩, .string ⟨#[]⟩, .string ⟨#[]⟩, .int .i64 0])
  have hK1 : Hid (Keeps (fun _ => False) w (w.alloc (.cells #[.int .i64 0, .int .i64 0, .string ⟨#[]⟩, .string ⟨#[]⟩, .string ⟨#[]⟩, .int .i64 0] 56))) := Lib.hid ((Keeps.refl _ _).alloc _)
  obtain ⟨p, c, rfl, hc⟩ : ∃ p c, v = .slice p ws.length c ∧ True := by obtain ⟨p, c, e, _⟩ := hv.out; exact ⟨p, c, e, trivial⟩
  clear ht hv hc
  go_enter Tryz.func56, Tryz.ntmps56
  go_wp2_with fail
  refine (verbOf_0 s _ 0 _ ht1 hk (Lib.hid rfl)).mono ?_
  rintro e w2 ⟨rfl, rfl⟩
  clear ht1
  go_wp2_with ((with_reducible refine at_store 4 ?_); refine wpList_store_blk rfl 56 (.tmp 4) (.tmp 18) rfl w.heap.size #[.int .i64 0, .int .i64 0, .string ⟨#[]⟩, .string ⟨#[]⟩, .string ⟨#[]⟩, .int .i64 0] rfl rfl (BlkAt.there (hB1.out) 0 6 (Nat.le_refl 6)) cmdInfo (cmd_one _ _ _ _ _ _) ?_; intro w9 hr9 hs9)
  refine bodyPost_ret (v := .tuple #[.agg #[.int .i64 0, .int .i64 0, .string ⟨#[]⟩, .string ⟨#[]⟩, .string ⟨#[]⟩, .int .i64 0], .bool false]) (ret_cell_tmp Tryz.results56 _ _ w.heap.size [.int .i64 0, .int .i64 0, .string ⟨#[]⟩, .string ⟨#[]⟩, .string ⟨#[]⟩, .int .i64 0] _ rfl hr9.out Tryz.underlying56 rfl cmdInfo) rfl (cmd_post_none (hK1.out.trans' hs9.out (fun i e => .inr (by omega))))
set_option maxRecDepth 100000 in
set_option maxHeartbeats 1000000 in
theorem command_set (s : ByteArray) (v : Value) (ws : List (List UInt8)) (w : World) (ht : Hid (VerbsOk w)) (hv : Hid (StrsC w v ws)) (hs : Hid (∀ x ∈ ws, x.length ≤ 9223372036854775807)) (hn : ws.length ≤ 1000000) (hk : Hid (verbD s.data.toList = 1)) :
    Calls Tryz.prog 56 #[.string s, v] w (CmdPost (settingD ws) w) := by
  have ht1 := Lib.hid (ht.out.keep ((Keeps.refl (fun _ => False) w).alloc (.cells #[.int .i64 0, .int .i64 0, .string ⟨#[]⟩, .string ⟨#[]⟩, .string ⟨#[]⟩, .int .i64 0] 56)))
  have hv1 := Lib.hid (hv.out.keep ((Keeps.refl (fun _ => False) w).alloc (.cells #[.int .i64 0, .int .i64 0, .string ⟨#[]⟩, .string ⟨#[]⟩, .string ⟨#[]⟩, .int .i64 0] 56)))
  have hB1 := Lib.hid (BlkAt.new w 56 [.int .i64 0, .int .i64 0, .string ⟨#[]⟩, .string ⟨#[]⟩, .string ⟨#[]⟩, .int .i64 0])
  have hK1 : Hid (Keeps (fun _ => False) w (w.alloc (.cells #[.int .i64 0, .int .i64 0, .string ⟨#[]⟩, .string ⟨#[]⟩, .string ⟨#[]⟩, .int .i64 0] 56))) := Lib.hid ((Keeps.refl _ _).alloc _)
  obtain ⟨p, c, rfl, hc⟩ : ∃ p c, v = .slice p ws.length c ∧ True := by obtain ⟨p, c, e, _⟩ := hv.out; exact ⟨p, c, e, trivial⟩
  clear ht hv hc
  go_enter Tryz.func56, Tryz.ntmps56
  go_wp2_with fail
  refine (verbOf_0 s _ 1 _ ht1 hk (Lib.hid rfl)).mono ?_
  rintro e w2 ⟨rfl, rfl⟩
  clear ht1
  obtain ⟨b, hb⟩ : ∃ b, (settingD ws).isSome = b := ⟨_, rfl⟩
  have hb' := Lib.hid hb; clear hb
  go_wp2_with fail
  refine (setting_b _ ws b _ hv1 hs hn hb').mono ?_
  rintro e w2 ⟨a, h, N, L, V, n, rfl, k2, hx⟩
  have hK2 := Lib.hid (hK1.out.trans k2); have hB2 := Lib.hid (hB1.out.keep k2 id); have hx' := Lib.hid hx
  clear k2 hx hB1
  go_wp2_with ((with_reducible refine at_store 4 ?_); refine wpList_store_blk rfl 56 (.tmp 4) (.tmp 23) rfl w.heap.size #[.int .i64 a, .int .i64 h, .string N, .string L, .string V, .int .i64 n] rfl rfl (BlkAt.there (hB2.out) 0 6 (Nat.le_refl 6)) cmdInfo (cmd_one _ _ _ _ _ _) ?_; intro w9 hr9 hs9)
  refine bodyPost_ret (v := .tuple #[.agg #[.int .i64 a, .int .i64 h, .string N, .string L, .string V, .int .i64 n], .bool b]) (ret_cell_tmp Tryz.results56 _ _ w.heap.size [.int .i64 a, .int .i64 h, .string N, .string L, .string V, .int .i64 n] _ rfl hr9.out Tryz.underlying56 rfl cmdInfo) rfl ⟨a, h, N, L, V, n, by rw [hb'.out], hK2.out.trans' hs9.out (fun i e => .inr (by omega)), hx'.out⟩
set_option maxRecDepth 100000 in
set_option maxHeartbeats 1000000 in
theorem command_delete (s : ByteArray) (v : Value) (ws : List (List UInt8)) (w : World) (ht : Hid (VerbsOk w)) (hv : Hid (StrsC w v ws)) (hs : Hid (∀ x ∈ ws, x.length ≤ 9223372036854775807)) (hn : ws.length ≤ 1000000) (hk : Hid (verbD s.data.toList = 2)) :
    Calls Tryz.prog 56 #[.string s, v] w (CmdPost ((pathD ws).map fun p => ⟨2, p.1, p.2.1, p.2.2, [], 0⟩) w) := by
  have ht1 := Lib.hid (ht.out.keep ((Keeps.refl (fun _ => False) w).alloc (.cells #[.int .i64 0, .int .i64 0, .string ⟨#[]⟩, .string ⟨#[]⟩, .string ⟨#[]⟩, .int .i64 0] 56)))
  have hv1 := Lib.hid (hv.out.keep ((Keeps.refl (fun _ => False) w).alloc (.cells #[.int .i64 0, .int .i64 0, .string ⟨#[]⟩, .string ⟨#[]⟩, .string ⟨#[]⟩, .int .i64 0] 56)))
  have hB1 := Lib.hid (BlkAt.new w 56 [.int .i64 0, .int .i64 0, .string ⟨#[]⟩, .string ⟨#[]⟩, .string ⟨#[]⟩, .int .i64 0])
  have hK1 : Hid (Keeps (fun _ => False) w (w.alloc (.cells #[.int .i64 0, .int .i64 0, .string ⟨#[]⟩, .string ⟨#[]⟩, .string ⟨#[]⟩, .int .i64 0] 56))) := Lib.hid ((Keeps.refl _ _).alloc _)
  obtain ⟨p, c, rfl, hc⟩ : ∃ p c, v = .slice p ws.length c ∧ True := by obtain ⟨p, c, e, _⟩ := hv.out; exact ⟨p, c, e, trivial⟩
  clear ht hv hc
  go_enter Tryz.func56, Tryz.ntmps56
  go_wp2_with fail
  refine (verbOf_0 s _ 2 _ ht1 hk (Lib.hid rfl)).mono ?_
  rintro e w2 ⟨rfl, rfl⟩
  clear ht1
  obtain ⟨b, hb⟩ : ∃ b, (pathD ws).isSome = b := ⟨_, rfl⟩
  have hb' := Lib.hid hb; clear hb
  go_wp2_with fail
  refine (path_b _ ws b _ (Lib.hid hv1.out.at) hs.out hb').mono ?_
  rintro e w2 ⟨h, N, L, rfl, k2, hx⟩
  have hK2 := Lib.hid (hK1.out.trans k2); have hB2 := Lib.hid ((hB1.out.keep k2 id).alloc (.cells #[.int .i64 h, .string N, .string L, .string ⟨#[]⟩] 50)); have hx' := Lib.hid hx
  clear k2 hx hB1
  go_wp2_with (first | ((with_reducible refine at_store 7 ?_); refine wpList_store_new rfl 50 (.tmp 7) (.tmp 30) rfl _ #[.int .i64 h, .string N, .string L, .string ⟨#[]⟩] rfl rfl lineInfo rfl (line_one _ _ _ _) ?_) | ((with_reducible refine at_slot 32 ?_); refine wpList_load_mid rfl 50 (.tmp 7) rfl w2.heap.size 0 rfl [.int .i64 h, .string N, .string L, .string ⟨#[]⟩] _ (new_rangeb _ _ _) Tryz.underlying50 rfl lineInfo ?_) | ((with_reducible refine at_store 4 ?_); refine wpList_store_blk rfl 56 (.tmp 4) (.tmp 33) rfl w.heap.size #[.int .i64 2, .int .i64 h, .string N, .string L, .string ⟨#[]⟩, .int .i64 0] rfl rfl (BlkAt.there (hB2.out) 0 6 (Nat.le_refl 6)) cmdInfo (cmd_one _ _ _ _ _ _) ?_; intro w9 hr9 hs9))
  refine bodyPost_ret (v := .tuple #[.agg #[.int .i64 2, .int .i64 h, .string N, .string L, .string ⟨#[]⟩, .int .i64 0], .bool b]) (ret_cell_tmp Tryz.results56 _ _ w.heap.size [.int .i64 2, .int .i64 h, .string N, .string L, .string ⟨#[]⟩, .int .i64 0] _ rfl hr9.out Tryz.underlying56 rfl cmdInfo) rfl ⟨2, h, N, L, ⟨#[]⟩, 0, ?_, (hK2.out.alloc _).trans' hs9.out (fun i e => .inr (by omega)), ?_⟩
  · rw [← hb'.out]; cases pathD ws <;> rfl
  · intro cc hcc
    cases hp : pathD ws with
    | none => rw [hp] at hcc; cases hcc
    | some q => (rw [hp] at hcc; injection hcc with hcc; subst hcc; obtain ⟨e1, e2, e3⟩ := hx'.out _ hp; exact ⟨rfl, e1, e2, e3, rfl, rfl⟩)
set_option maxRecDepth 100000 in
set_option maxHeartbeats 1000000 in
theorem command_wait (s : ByteArray) (v : Value) (ws : List (List UInt8)) (w : World) (ht : Hid (VerbsOk w)) (hv : Hid (StrsC w v ws)) (hs : Hid (∀ x ∈ ws, x.length ≤ 9223372036854775807)) (hn : ws.length ≤ 1000000) (hk : Hid (verbD s.data.toList = 7)) :
    Calls Tryz.prog 56 #[.string s, v] w (CmdPost ((numD ws 1 65535).map fun n => ⟨7, 0, [], [], [], n⟩) w) := by
  have ht1 := Lib.hid (ht.out.keep ((Keeps.refl (fun _ => False) w).alloc (.cells #[.int .i64 0, .int .i64 0, .string ⟨#[]⟩, .string ⟨#[]⟩, .string ⟨#[]⟩, .int .i64 0] 56)))
  have hv1 := Lib.hid (hv.out.keep ((Keeps.refl (fun _ => False) w).alloc (.cells #[.int .i64 0, .int .i64 0, .string ⟨#[]⟩, .string ⟨#[]⟩, .string ⟨#[]⟩, .int .i64 0] 56)))
  have hB1 := Lib.hid (BlkAt.new w 56 [.int .i64 0, .int .i64 0, .string ⟨#[]⟩, .string ⟨#[]⟩, .string ⟨#[]⟩, .int .i64 0])
  have hK1 : Hid (Keeps (fun _ => False) w (w.alloc (.cells #[.int .i64 0, .int .i64 0, .string ⟨#[]⟩, .string ⟨#[]⟩, .string ⟨#[]⟩, .int .i64 0] 56))) := Lib.hid ((Keeps.refl _ _).alloc _)
  obtain ⟨p, c, rfl, hc⟩ : ∃ p c, v = .slice p ws.length c ∧ True := by obtain ⟨p, c, e, _⟩ := hv.out; exact ⟨p, c, e, trivial⟩
  clear ht hv hc
  go_enter Tryz.func56, Tryz.ntmps56
  go_wp2_with fail
  refine (verbOf_0 s _ 7 _ ht1 hk (Lib.hid rfl)).mono ?_
  rintro e w2 ⟨rfl, rfl⟩
  clear ht1
  obtain ⟨b, hb⟩ : ∃ b, (numD ws 1 65535).isSome = b := ⟨_, rfl⟩
  have hb' := Lib.hid hb; clear hb
  go_wp2_with fail
  refine (num_b _ ws 1 65535 b _ (Lib.hid hv1.out.at) hb').mono ?_
  rintro e w2 ⟨n, rfl, rfl, hx⟩
  have hx' := Lib.hid hx
  clear hx
  go_wp2_with ((with_reducible refine at_store 4 ?_); refine wpList_store_blk rfl 56 (.tmp 4) (.tmp 43) rfl w.heap.size #[.int .i64 7, .int .i64 0, .string ⟨#[]⟩, .string ⟨#[]⟩, .string ⟨#[]⟩, .int .i64 n] rfl rfl (BlkAt.there (hB1.out) 0 6 (Nat.le_refl 6)) cmdInfo (cmd_one _ _ _ _ _ _) ?_; intro w9 hr9 hs9)
  refine bodyPost_ret (v := .tuple #[.agg #[.int .i64 7, .int .i64 0, .string ⟨#[]⟩, .string ⟨#[]⟩, .string ⟨#[]⟩, .int .i64 n], .bool b]) (ret_cell_tmp Tryz.results56 _ _ w.heap.size [.int .i64 7, .int .i64 0, .string ⟨#[]⟩, .string ⟨#[]⟩, .string ⟨#[]⟩, .int .i64 n] _ rfl hr9.out Tryz.underlying56 rfl cmdInfo) rfl ⟨7, 0, ⟨#[]⟩, ⟨#[]⟩, ⟨#[]⟩, n, ?_, hK1.out.trans' hs9.out (fun i e => .inr (by omega)), ?_⟩
  · rw [← hb'.out]; cases numD ws 1 65535 <;> rfl
  · intro cc hcc
    cases hp : numD ws 1 65535 with
    | none => rw [hp] at hcc; cases hcc
    | some q => (rw [hp] at hcc; injection hcc with hcc; subst hcc; exact ⟨rfl, rfl, rfl, rfl, rfl, hx'.out _ hp⟩)
set_option maxRecDepth 100000 in
set_option maxHeartbeats 1000000 in
theorem command_back (s : ByteArray) (v : Value) (ws : List (List UInt8)) (w : World) (ht : Hid (VerbsOk w)) (hv : Hid (StrsC w v ws)) (hs : Hid (∀ x ∈ ws, x.length ≤ 9223372036854775807)) (hn : ws.length ≤ 1000000) (hk : Hid (verbD s.data.toList = 9)) :
    Calls Tryz.prog 56 #[.string s, v] w (CmdPost ((numD ws 0 5).map fun n => ⟨9, 0, [], [], [], n⟩) w) := by
  have ht1 := Lib.hid (ht.out.keep ((Keeps.refl (fun _ => False) w).alloc (.cells #[.int .i64 0, .int .i64 0, .string ⟨#[]⟩, .string ⟨#[]⟩, .string ⟨#[]⟩, .int .i64 0] 56)))
  have hv1 := Lib.hid (hv.out.keep ((Keeps.refl (fun _ => False) w).alloc (.cells #[.int .i64 0, .int .i64 0, .string ⟨#[]⟩, .string ⟨#[]⟩, .string ⟨#[]⟩, .int .i64 0] 56)))
  have hB1 := Lib.hid (BlkAt.new w 56 [.int .i64 0, .int .i64 0, .string ⟨#[]⟩, .string ⟨#[]⟩, .string ⟨#[]⟩, .int .i64 0])
  have hK1 : Hid (Keeps (fun _ => False) w (w.alloc (.cells #[.int .i64 0, .int .i64 0, .string ⟨#[]⟩, .string ⟨#[]⟩, .string ⟨#[]⟩, .int .i64 0] 56))) := Lib.hid ((Keeps.refl _ _).alloc _)
  obtain ⟨p, c, rfl, hc⟩ : ∃ p c, v = .slice p ws.length c ∧ True := by obtain ⟨p, c, e, _⟩ := hv.out; exact ⟨p, c, e, trivial⟩
  clear ht hv hc
  go_enter Tryz.func56, Tryz.ntmps56
  go_wp2_with fail
  refine (verbOf_0 s _ 9 _ ht1 hk (Lib.hid rfl)).mono ?_
  rintro e w2 ⟨rfl, rfl⟩
  clear ht1
  obtain ⟨b, hb⟩ : ∃ b, (numD ws 0 5).isSome = b := ⟨_, rfl⟩
  have hb' := Lib.hid hb; clear hb
  go_wp2_with fail
  refine (num_b _ ws 0 5 b _ (Lib.hid hv1.out.at) hb').mono ?_
  rintro e w2 ⟨n, rfl, rfl, hx⟩
  have hx' := Lib.hid hx
  clear hx
  go_wp2_with ((with_reducible refine at_store 4 ?_); refine wpList_store_blk rfl 56 (.tmp 4) (.tmp 53) rfl w.heap.size #[.int .i64 9, .int .i64 0, .string ⟨#[]⟩, .string ⟨#[]⟩, .string ⟨#[]⟩, .int .i64 n] rfl rfl (BlkAt.there (hB1.out) 0 6 (Nat.le_refl 6)) cmdInfo (cmd_one _ _ _ _ _ _) ?_; intro w9 hr9 hs9)
  refine bodyPost_ret (v := .tuple #[.agg #[.int .i64 9, .int .i64 0, .string ⟨#[]⟩, .string ⟨#[]⟩, .string ⟨#[]⟩, .int .i64 n], .bool b]) (ret_cell_tmp Tryz.results56 _ _ w.heap.size [.int .i64 9, .int .i64 0, .string ⟨#[]⟩, .string ⟨#[]⟩, .string ⟨#[]⟩, .int .i64 n] _ rfl hr9.out Tryz.underlying56 rfl cmdInfo) rfl ⟨9, 0, ⟨#[]⟩, ⟨#[]⟩, ⟨#[]⟩, n, ?_, hK1.out.trans' hs9.out (fun i e => .inr (by omega)), ?_⟩
  · rw [← hb'.out]; cases numD ws 0 5 <;> rfl
  · intro cc hcc
    cases hp : numD ws 0 5 with
    | none => rw [hp] at hcc; cases hcc
    | some q => (rw [hp] at hcc; injection hcc with hcc; subst hcc; exact ⟨rfl, rfl, rfl, rfl, rfl, hx'.out _ hp⟩)
set_option maxRecDepth 100000 in
set_option maxHeartbeats 1000000 in
theorem command_plain (s : ByteArray) (v : Value) (ws : List (List UInt8)) (k : Nat) (w : World) (ht : Hid (VerbsOk w)) (hv : Hid (StrsC w v ws)) (hs : Hid (∀ x ∈ ws, x.length ≤ 9223372036854775807)) (hn : ws.length ≤ 1000000) (hk : Hid (verbD s.data.toList = k)) (h0 : k = 3 ∨ k = 4 ∨ k = 5 ∨ k = 6 ∨ k = 8) :
    Calls Tryz.prog 56 #[.string s, v] w (CmdPost (if ws = [] then some ⟨k, 0, [], [], [], 0⟩ else none) w) := by
  have ht1 := Lib.hid (ht.out.keep ((Keeps.refl (fun _ => False) w).alloc (.cells #[.int .i64 0, .int .i64 0, .string ⟨#[]⟩, .string ⟨#[]⟩, .string ⟨#[]⟩, .int .i64 0] 56)))
  have hv1 := Lib.hid (hv.out.keep ((Keeps.refl (fun _ => False) w).alloc (.cells #[.int .i64 0, .int .i64 0, .string ⟨#[]⟩, .string ⟨#[]⟩, .string ⟨#[]⟩, .int .i64 0] 56)))
  have hB1 := Lib.hid (BlkAt.new w 56 [.int .i64 0, .int .i64 0, .string ⟨#[]⟩, .string ⟨#[]⟩, .string ⟨#[]⟩, .int .i64 0])
  have hK1 : Hid (Keeps (fun _ => False) w (w.alloc (.cells #[.int .i64 0, .int .i64 0, .string ⟨#[]⟩, .string ⟨#[]⟩, .string ⟨#[]⟩, .int .i64 0] 56))) := Lib.hid ((Keeps.refl _ _).alloc _)
  obtain ⟨p, c, rfl, hc⟩ : ∃ p c, v = .slice p ws.length c ∧ True := by obtain ⟨p, c, e, _⟩ := hv.out; exact ⟨p, c, e, trivial⟩
  obtain ⟨f, hf⟩ : ∃ f, (if ws = [] then some (⟨(k : Int), 0, [], [], [], 0⟩ : CmdD) else none) = f := ⟨_, rfl⟩
  rw [hf]
  have hf2 := Lib.hid hf
  clear ht hv hc hf
  go_enter Tryz.func56, Tryz.ntmps56
  go_wp2_with fail
  refine (verbOf_0 s _ k _ ht1 hk (Lib.hid rfl)).mono ?_
  rintro e w2 ⟨rfl, rfl⟩
  clear ht1
  have e0 : ((k : Int) == 0) = false := by rw [beq_eq_false_iff_ne]; omega
  have e1 : ((k : Int) == 1) = false := by rw [beq_eq_false_iff_ne]; omega
  have e2 : ((k : Int) == 2) = false := by rw [beq_eq_false_iff_ne]; omega
  have e7 : ((k : Int) == 7) = false := by rw [beq_eq_false_iff_ne]; omega
  have e9 : ((k : Int) == 9) = false := by rw [beq_eq_false_iff_ne]; omega
  have f0 : (k == 0) = false := by rw [beq_eq_false_iff_ne]; omega
  have f1 : (k == 1) = false := by rw [beq_eq_false_iff_ne]; omega
  have f2 : (k == 2) = false := by rw [beq_eq_false_iff_ne]; omega
  have f7 : (k == 7) = false := by rw [beq_eq_false_iff_ne]; omega
  have f9 : (k == 9) = false := by rw [beq_eq_false_iff_ne]; omega
  clear h0
  obtain ⟨m, hm⟩ : ∃ m, ws.length = m := ⟨_, rfl⟩
  have hm' := Lib.hid hm
  rw [hm] at hn ⊢
  clear hm
  go_wp2_with ((with_reducible refine at_store 4 ?_); refine wpList_store_blk rfl 56 (.tmp 4) (.tmp 56) rfl w.heap.size #[.int .i64 k, .int .i64 0, .string ⟨#[]⟩, .string ⟨#[]⟩, .string ⟨#[]⟩, .int .i64 0] rfl rfl (BlkAt.there (hB1.out) 0 6 (Nat.le_refl 6)) cmdInfo (cmd_one _ _ _ _ _ _) ?_; intro w9 hr9 hs9)
  refine bodyPost_ret (v := .tuple #[.agg #[.int .i64 k, .int .i64 0, .string ⟨#[]⟩, .string ⟨#[]⟩, .string ⟨#[]⟩, .int .i64 0], .bool ((m : Int) == 0)]) (ret_cell_tmp Tryz.results56 _ _ w.heap.size [.int .i64 k, .int .i64 0, .string ⟨#[]⟩, .string ⟨#[]⟩, .string ⟨#[]⟩, .int .i64 0] _ rfl hr9.out Tryz.underlying56 rfl cmdInfo) rfl ⟨k, 0, ⟨#[]⟩, ⟨#[]⟩, ⟨#[]⟩, 0, ?_, hK1.out.trans' hs9.out (fun i e => .inr (by omega)), ?_⟩
  · rw [← hf2.out]
    by_cases he : ws = []
    · rw [if_pos he, show m = 0 by rw [← hm'.out, he]; rfl]; rfl
    · have : m ≠ 0 := by rw [← hm'.out]; exact fun h => he (List.length_eq_zero_iff.1 h)
      rw [if_neg he, show ((m : Int) == 0) = false by rw [beq_eq_false_iff_ne]; omega]; rfl
  · rw [← hf2.out]
    intro cc hcc
    by_cases he : ws = []
    · rw [if_pos he] at hcc; injection hcc with hcc; subst hcc; exact ⟨rfl, rfl, rfl, rfl, rfl, rfl⟩
    · rw [if_neg he] at hcc; cases hcc
theorem command_any (s : ByteArray) (v : Value) (ws : List (List UInt8)) (w : World) (ht : Hid (VerbsOk w)) (hv : Hid (StrsC w v ws)) (hs : Hid (∀ x ∈ ws, x.length ≤ 9223372036854775807)) (hn : ws.length ≤ 1000000) :
    Calls Tryz.prog 56 #[.string s, v] w (CmdPost (cmdD s.data.toList ws) w) := by
  have hlt := verb_lt s.data.toList
  obtain ⟨k, hk⟩ : ∃ k, verbD s.data.toList = k := ⟨_, rfl⟩
  have hk' := Lib.hid hk
  unfold cmdD
  rw [hk] at hlt ⊢
  rcases (show k = 0 ∨ k = 1 ∨ k = 2 ∨ k = 7 ∨ k = 9 ∨ (k = 3 ∨ k = 4 ∨ k = 5 ∨ k = 6 ∨ k = 8) by omega) with h | h | h | h | h | h
  · subst h; exact command_zero s v ws w ht hv hs hn hk'
  · subst h; exact command_set s v ws w ht hv hs hn hk'
  · subst h; exact command_delete s v ws w ht hv hs hn hk'
  · subst h; exact command_wait s v ws w ht hv hs hn hk'
  · subst h; exact command_back s v ws w ht hv hs hn hk'
  · rw [if_neg (by omega), if_neg (by omega), if_neg (by omega), if_neg (by omega), if_neg (by omega)]
    exact command_plain s v ws k w ht hv hs hn hk' h
end Go.Proofs.YtdannodhlaaoiaaGreatDoor
