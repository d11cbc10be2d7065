/- Rows of texts held against each other; reads. -/
import Derived.Test.YtdgacnkfljcbpaaLXE
namespace Go.Proofs.Ytdgacnkfljcbpaa
open Go.RowKit

set_option maxRecDepth 100000 in
theorem rSame3_any (a b : Value) (xs ys : List (List UInt8)) (w : World) (ha : StrsAt w a xs) (hb : StrsAt w b ys) (hl1 : xs.length ≤ 9223372036854775807) (hl2 : ys.length ≤ 9223372036854775807) :
    Calls Try.prog 14 #[a, b] w fun e w' => e = .returned (.bool (xs == ys)) ∧ ∃ n, w' = w.drewN n := by
  obtain ⟨p, c, rfl, ha⟩ := ha
  obtain ⟨q, d, rfl, hb⟩ := hb
  by_cases hl : xs.length = ys.length
  · have hl' : ((xs.length : Int) != (ys.length : Int)) = false := by rw [hl]; simp
    have hl'' : (xs.length != ys.length) = false := by rw [hl]; simp
    have hlh := Lib.hid hl; clear hl
    have ha' := Lib.hid ha; have hb' := Lib.hid hb; clear ha hb
    go_enter Try.func14, Try.ntmps14
    go_wp2
    go_loopw [5] (fun i wr => ∃ (k m : Nat), k ≤ xs.length ∧ i = .int .i64 k ∧ wr = w.drewN m ∧ Hid (xs.take k = ys.take k)) (fun i _ => xs.length - (intOf i).toNat)
    case atStart => exact ⟨0, 0, by omega, rfl, rfl, Lib.hid (by simp)⟩
    case round =>
      obtain ⟨k, m, hk, rfl, rfl, heq⟩ := hrel
      by_cases hlt : k < xs.length
      · have hlt2 : k < ys.length := by have := hlh.out; omega
        obtain ⟨g, o, rfl, hr⟩ := ha'.out (by omega)
        obtain ⟨g2, o2, rfl, hr2⟩ := hb'.out (by omega)
        obtain ⟨X, hX⟩ : ∃ X : ByteArray, X = ⟨(xs[k]).toArray⟩ := ⟨_, rfl⟩
        obtain ⟨Y, hY⟩ : ∃ Y : ByteArray, Y = ⟨(ys[k]).toArray⟩ := ⟨_, rfl⟩
        have c1 : w.cell? ⟨g, o + k, none⟩ = some (.string X) := by rw [hX]; exact hr k _ (by simp [hlt, strv])
        have c2 : w.cell? ⟨g2, o2 + k, none⟩ = some (.string Y) := by rw [hY]; exact hr2 k _ (by simp [hlt2, strv])
        by_cases he : xs[k] = ys[k]
        · have hE : (X.toList == Y.toList) = true := by rw [hX, hY, ba_toList, ba_toList, he]; simp
          have hX' := Lib.hid hX; have hY' := Lib.hid hY; clear hX hY hr hr2
          have hn : Hid (xs.take (k + 1) = ys.take (k + 1)) := Lib.hid (by
            rw [List.take_succ_eq_append_getElem hlt, List.take_succ_eq_append_getElem hlt2, heq.out, he])
          clear heq he
          go_wp2
          go_quiet (fail)
          go_wp2
          go_roundw
          case rel => exact ⟨k + 1, _, by omega, by go_num, rfl, hn⟩
          case measure => simp [intOf]; omega
        · have hE : (X.toList == Y.toList) = false := by rw [hX, hY, ba_toList, ba_toList]; simpa using he
          have hn : Hid ((xs == ys) = false) := Lib.hid (by rw [beq_eq_false_iff_ne]; rintro rfl; exact he rfl)
          have hX' := Lib.hid hX; have hY' := Lib.hid hY; clear hX hY hr hr2 heq he
          go_wp2
          go_quiet (fail)
          go_wp2
          go_ret
          exact ⟨by rw [hn.out]; rfl, m + nq, by simp⟩
      · obtain rfl : k = xs.length := by omega
        have hn : Hid ((xs == ys) = true) := Lib.hid (by
          rw [beq_iff_eq]
          have h := heq.out
          rw [hlh.out] at h
          rw [← hlh.out, List.take_length, hlh.out, List.take_length] at h
          exact h)
        clear heq
        go_wp2
        go_ret
        exact ⟨by rw [hn.out]; rfl, _, rfl⟩
  · have hl' : ((xs.length : Int) != (ys.length : Int)) = true := by rw [bne_iff_ne]; omega
    have hl'' : (xs.length != ys.length) = true := by simpa using hl
    have hn : Hid ((xs == ys) = false) := Lib.hid (by rw [beq_eq_false_iff_ne]; rintro rfl; exact hl rfl)
    clear hl ha hb
    go_enter Try.func14, Try.ntmps14
    go_wp2
    go_ret
    exact ⟨by rw [hn.out]; rfl, 0, rfl⟩

theorem lex_reads : lexWords [97, 123, 98, 59, 125, 35, 32, 99] = ([[97], [123], [98], [59], [125]], 8, 0) := by
  have e : lexL [97, 123, 98, 59, 125, 35, 32, 99] = .ok [[97], [123], [98], [59], [125]] := by
    have h1 := lexL_isWord (s := [97]) (by decide) [123, 98, 59, 125, 35, 32, 99] (by decide)
    have h2 := lexL_isWord (s := [98]) (by decide) [59, 125, 35, 32, 99] (by decide)
    simp only [List.singleton_append] at h1 h2
    rw [h1, lexL_sign (by decide), h2, lexL_sign (by decide), lexL_sign (by decide), lexL_hash]
    rw [show ([32, 99] : List UInt8).drop (clen [32, 99]) = [] by decide, lexL_nil]
    rfl
  unfold lexWords
  rw [e]; rfl

set_option maxRecDepth 100000 in
theorem reads3_any (w : World) :
    Calls Try.prog 13 #[] w fun e w' => e = .returned (.bool true) ∧ Keeps (fun _ => False) w w' := by
  go_enter Try.func13, Try.ntmps13
  go_wp2_with fail
  refine (words_any _ _ (by decide)).mono ?_
  rintro e w1 ⟨p, c, rfl, hown, hk⟩
  rw [show (ByteArray.mk #[97, 123, 98, 59, 125, 35, 32, 99]).data.toList = [97, 123, 98, 59, 125, 35, 32, 99] from rfl, lex_reads] at *
  have hown' := Lib.hid hown; have hk' := Lib.hid hk; clear hown hk
  go_wp2_with fail
  refine (rSame3_any _ _ [[97], [123], [98], [59], [125]] [[97], [123], [98], [59], [125]] _ (hown'.out.after ((Keeps.refl (fun _ => False) _).alloc _) (fun _ h => h.elim)) (strs_lit _ w1 _ 5 rfl (fun j u hu => by have := cells_new (n := w1.heap.size) rfl ([[97], [123], [98], [59], [125]].map strv) 9 j u hu; rw [Addr.add_mid, Nat.zero_add] at this; exact this)) (by decide) (by decide)).mono ?_
  rintro e w2 ⟨rfl, n2, rfl⟩
  go_wp2_with fail
  refine (isWord_any _ true _ (by decide) (Lib.hid (by decide))).mono ?_
  rintro e w' ⟨rfl, rfl⟩
  go_wp2_with fail
  refine (isWord_any _ false _ (by decide) (Lib.hid (by decide))).mono ?_
  rintro e w' ⟨rfl, rfl⟩
  go_wp2_with fail
  go_ret
  exact ⟨rfl, (hk'.out.alloc _).drewN _⟩
end Go.Proofs.Ytdgacnkfljcbpaa
