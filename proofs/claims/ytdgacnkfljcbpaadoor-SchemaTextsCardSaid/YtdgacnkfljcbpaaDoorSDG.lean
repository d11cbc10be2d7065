/- SchemaTexts, walked. -/
import Derived.Test.YtdgacnkfljcbpaaDoorSDE
namespace Go.Proofs.YtdgacnkfljcbpaaDoor
open Go.RowKit

theorem cut_size (s : ByteArray) (n : Nat) : (s.extract 0 n).size ≤ n := by simp; omega
theorem addr_v (s : ByteArray) (a : Nat) (ok : Bool) (r : Option Nat) (w : World) (hs : s.size ≤ 9223372036854775807) (h : Hid (addrL s.data.toList = r)) (hv : Hid (addrRes r = .tuple #[.int .u32 (a : Nat), .bool ok])) :
    Calls Tryd.prog 6 #[.string s] w fun e w' => e = .returned (.tuple #[.int .u32 (a : Nat), .bool ok]) ∧ ∃ m, w' = w.drewN m := by rw [← hv.out]; exact addr_r s r w hs h
theorem rAddr_v (s : ByteArray) (a : Nat) (ok : Bool) (r : Option Nat) (w : World) (hs : s.size ≤ 8796093022000) (h : Hid (addrL s.data.toList = r)) (hv : Hid (addrRes r = .tuple #[.int .u32 (a : Nat), .bool ok])) :
    Calls Tryd.prog 7 #[.string s] w (NewRes (.tuple #[.int .u32 (a : Nat), .bool ok]) w) := by rw [← hv.out]; exact rAddr_r s r w hs h
theorem net_v (s : ByteArray) (a n : Nat) (ok : Bool) (r : Option (Nat × Nat)) (w : World) (hs : s.size ≤ 9223372036854775807) (h : Hid (netL s.data.toList = r)) (hv : Hid (netRes r = .tuple #[.int .u32 (a : Nat), .int .i64 (n : Nat), .bool ok])) :
    Calls Tryd.prog 8 #[.string s] w fun e w' => e = .returned (.tuple #[.int .u32 (a : Nat), .int .i64 (n : Nat), .bool ok]) ∧ ∃ m, w' = w.drewN m := by rw [← hv.out]; exact net_r s r w hs h
theorem rNet_v (s : ByteArray) (a n : Nat) (ok : Bool) (r : Option (Nat × Nat)) (w : World) (hs : s.size ≤ 8796093022000) (h : Hid (netL s.data.toList = r)) (hv : Hid (netRes r = .tuple #[.int .u32 (a : Nat), .int .i64 (n : Nat), .bool ok])) :
    Calls Tryd.prog 9 #[.string s] w (NewRes (.tuple #[.int .u32 (a : Nat), .int .i64 (n : Nat), .bool ok]) w) := by rw [← hv.out]; exact rNet_r s r w hs h
theorem dec_v (s : ByteArray) (n : Nat) (ok : Bool) (r : Option Nat) (w : World) (h : Hid (decL s.data.toList = r)) (hv : Hid (decRes r = .tuple #[.int .i64 (n : Nat), .bool ok])) :
    Calls Tryd.prog 10 #[.string s] w fun e w' => e = .returned (.tuple #[.int .i64 (n : Nat), .bool ok]) ∧ w = w' := by rw [← hv.out]; exact dec_r s r w h
theorem rDec_v (s : ByteArray) (n : Nat) (ok : Bool) (r : Option Nat) (w : World) (h : Hid (decL s.data.toList = r)) (hv : Hid (decRes r = .tuple #[.int .i64 (n : Nat), .bool ok])) :
    Calls Tryd.prog 11 #[.string s] w fun e w' => e = .returned (.tuple #[.int .i64 (n : Nat), .bool ok]) ∧ w = w' := by rw [← hv.out]; exact rDec_r s r w h
theorem addrRes_ex (r : Option Nat) : ∃ a ok, addrRes r = .tuple #[.int .u32 (a : Nat), .bool ok] := by cases r; exact ⟨0, false, rfl⟩; exact ⟨_, true, rfl⟩
theorem decRes_ex (r : Option Nat) : ∃ a ok, decRes r = .tuple #[.int .i64 (a : Nat), .bool ok] := by cases r; exact ⟨0, false, rfl⟩; exact ⟨_, true, rfl⟩
theorem netRes_ex (r : Option (Nat × Nat)) : ∃ a n ok, netRes r = .tuple #[.int .u32 (a : Nat), .int .i64 (n : Nat), .bool ok] := by
  rcases r with _ | ⟨a, n⟩
  · exact ⟨0, 0, false, rfl⟩
  · exact ⟨a, n, true, rfl⟩

set_option maxRecDepth 100000 in
set_option maxHeartbeats 400000 in
theorem schemaTexts_law (s : ByteArray) (n : Nat) (w : World) (hs : s.size ≤ 9223372036854775807) (hn : n < 4294967296) (ht : Hid (TabOk w)) :
    Calls Tryd.prog 3 #[.string s, .int .u32 (n : Nat)] w (lawEnd w) := by
  obtain ⟨D, hD, lD⟩ := ba_ex (dotted n) 15 (dotted_len n)
  have hD2 : Hid (strv (dotted n) = .string D) := Lib.hid (by rw [hD.out]; rfl)
  have d6 : Hid (addrL D.data.toList = some n) := Lib.hid (by rw [hD.out]; exact addrL_dotted hn)
  go_enter Tryd.func3, Tryd.ntmps3
  go_wp2_with fail
  obtain ⟨x, hx⟩ : ∃ x : ByteArray, x = s.extract 0 (min (s.size : Int) 60).toNat := ⟨_, rfl⟩
  have hxs : x.size ≤ 60 := by rw [hx]; exact Nat.le_trans (cut_size s _) (by omega)
  rw [← hx]
  have hx' := Lib.hid hx; clear hx
  obtain ⟨ra, hra⟩ : ∃ r, addrL x.data.toList = r := ⟨_, rfl⟩
  obtain ⟨rn, hrn⟩ : ∃ r, netL x.data.toList = r := ⟨_, rfl⟩
  obtain ⟨rd, hrd⟩ : ∃ r, decL x.data.toList = r := ⟨_, rfl⟩
  obtain ⟨a, aok, va⟩ := addrRes_ex ra
  obtain ⟨b, l, bok, vb⟩ := netRes_ex rn
  obtain ⟨y, yok, vy⟩ := decRes_ex rd
  have ha1 := Lib.hid hra; have ha2 := Lib.hid va; have hb1 := Lib.hid hrn; have hb2 := Lib.hid vb; have hy1 := Lib.hid hrd; have hy2 := Lib.hid vy
  clear hra va hrn vb hrd vy
  refine (addr_v x a aok ra _ (by omega) ha1 ha2).mono ?_
  rintro e w1 ⟨rfl, m1, rfl⟩
  go_wp2_with fail
  refine (rAddr_v x a aok ra _ (by omega) ha1 ha2).mono ?_
  rintro e w2 ⟨rfl, k2⟩
  have k2' := Lib.hid k2; clear k2
  go_wp2_with fail
  refine (net_v x b l bok rn _ (by omega) hb1 hb2).mono ?_
  rintro e w3 ⟨rfl, m3, rfl⟩
  go_wp2_with fail
  refine (rNet_v x b l bok rn _ (by omega) hb1 hb2).mono ?_
  rintro e w4 ⟨rfl, k4⟩
  have k4' := Lib.hid k4; clear k4
  go_wp2_with fail
  refine (dec_v x y yok rd _ hy1 hy2).mono ?_
  rintro e w' ⟨rfl, rfl⟩
  go_wp2_with fail
  refine (rDec_v x y yok rd _ hy1 hy2).mono ?_
  rintro e w' ⟨rfl, rfl⟩
  have kk := Lib.hid ((((((Keeps.refl (fun _ => False) w).drewN m1).trans k2'.out).drewN m3).trans k4'.out))
  have ht1 := Lib.hid (ht.out.keep kk.out)
  go_wp2_with fail
  refine (dotted_D n D _ hn ht1 hD2).mono ?_
  rintro e w5 ⟨rfl, k5⟩
  have k5' := Lib.hid k5; clear k5
  go_wp2_with fail
  refine (addr_some D n _ (by omega) d6).mono ?_
  rintro e w6 ⟨rfl, m6, rfl⟩
  have kk6 := Lib.hid ((kk.out.trans k5'.out).drewN m6)
  have ht2 := Lib.hid (ht.out.keep kk6.out)
  go_wp2_with fail
  refine (reads4_any _ ht2).mono ?_
  rintro e w7 ⟨rfl, k7⟩
  have k7' := Lib.hid (kk6.out.trans k7)
  have ht3 := Lib.hid (ht.out.keep k7'.out); clear k7
  have e1 : (aok == aok) = true := by simp
  have e2 : (bok == bok) = true := by simp
  have e3 : (yok == yok) = true := by simp
  go_wp2_with fail
  refine (dotted_D n D _ hn ht3 hD2).mono ?_
  rintro e w8 ⟨rfl, k8⟩
  have k8' := Lib.hid k8; clear k8
  go_wp2_with fail
  refine (rDotted_D n D _ hn hD2).mono ?_
  rintro e w9 ⟨rfl, k9⟩
  have k9' := Lib.hid k9; clear k9
  go_wp2_with fail
  go_ret
  exact lawEnd.mk ((k7'.out.trans k8'.out).trans k9'.out)
end Go.Proofs.YtdgacnkfljcbpaaDoor
