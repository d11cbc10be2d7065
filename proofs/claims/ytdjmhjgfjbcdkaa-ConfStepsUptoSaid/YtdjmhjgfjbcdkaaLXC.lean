/- lex.Words, walked. -/
import Derived.Test.YtdjmhjgfjbcdkaaLXB
namespace Go.Proofs.Ytdjmhjgfjbcdkaa
open Go.RowKit

def strv (l : List UInt8) : Value := .string ⟨l.toArray⟩
theorem strv_one (xs : List (List UInt8)) : ∀ v ∈ xs.map strv, v.oneCell' = true := by
  intro v hv; obtain ⟨x, _, rfl⟩ := List.mem_map.1 hv; rfl
theorem strInfoAll : (Try.prog.info? 9).map (fun i => (i.zero, i.size, i.bytes)) = some (some (.string ⟨#[]⟩), 1, 16) := by kernel_rfl
theorem extract_strv (s : ByteArray) (a b : Nat) : Value.string (s.extract a b) = strv ((s.data.toList.drop a).take (b - a)) := by
  unfold strv; rw [Lib.extract_eq]

/-- a row of texts of the call's own: no older block is part of it -/
def OwnStrs (w0 w : World) (v : Value) (xs : List (List UInt8)) : Prop :=
  w.ownsRow 0 9 1 v xs.length (xs.map strv) ∧ ∀ k, v.ownBlock = some k → w0.heap.size ≤ k
theorem OwnStrs.nil (w0 w : World) : OwnStrs w0 w (.slice none 0 0) [] := ⟨⟨rfl, .inl ⟨rfl, rfl⟩⟩, by simp [Value.ownBlock]⟩
theorem OwnStrs.slice {w0 w : World} {v : Value} {xs : List (List UInt8)} (h : OwnStrs w0 w v xs) : ∃ p c, v = .slice p xs.length c := ownsRow_slice h.1
/-- what an append to it leaves -/
theorem OwnStrs.push {w0 wr wb w1 : World} {v : Value} {xs : List (List UInt8)} (h : OwnStrs w0 wr v xs) (x : List UInt8) {p : Option Addr} {c : Nat} (hk : Keeps (fun _ => False) w0 wb)
    (ho : wb.grownBy w1 v.ownBlock) (h2 : w1.ownsRow 0 9 1 (.slice p (xs.length + 1) c) (xs.length + 1) (xs.map strv ++ [strv x]))
    (hs : ∀ k, (Value.slice p (xs.length + 1) c).ownBlock = some k → v.ownBlock = some k ∨ wb.heap.size ≤ k) :
    OwnStrs w0 w1 (.slice p (xs.length + 1) c) (xs ++ [x]) ∧ Keeps (fun _ => False) w0 w1 := by
  refine ⟨⟨by simpa using h2, fun k e => ?_⟩, hk.grown ho (fun k e => .inr (h.2 k e))⟩
  rcases hs k e with e | e
  · exact h.2 k e
  · have := hk.size; omega

/-- what Words answers -/
def WordsPost (t : List UInt8) (w0 : World) (e : Ending) (w' : World) : Prop :=
  ∃ p c, e = .returned (.tuple #[.slice p (lexWords t).1.length c, .int .i64 ((lexWords t).2.1 : Nat), .int .i64 ((lexWords t).2.2 : Nat)]) ∧ OwnStrs w0 w' (.slice p (lexWords t).1.length c) (lexWords t).1 ∧ Keeps (fun _ => False) w0 w'

theorem WordsPost.good {t : List UInt8} {l : List (List UInt8)} (h : lexL t = .ok l) {n : Nat} (hn : n = t.length) {w0 w' : World} {v : Value} (ho : OwnStrs w0 w' v l) (hk : Keeps (fun _ => False) w0 w') :
    WordsPost t w0 (.returned (.tuple #[v, .int .i64 (n : Nat), .int .i64 0])) w' := by
  obtain ⟨p, c, rfl⟩ := ho.slice
  have e : lexWords t = (l, t.length, 0) := by unfold lexWords; rw [h]
  refine ⟨p, c, ?_, ?_, hk⟩
  · rw [e]; simp [hn]
  · rw [e]; exact ho
theorem WordsPost.bad {t : List UInt8} {m : Nat} (h : lexL t = .bad m) {n : Nat} (hn : n = t.length - m) {w0 w' : World} (hk : Keeps (fun _ => False) w0 w') :
    WordsPost t w0 (.returned (.tuple #[.slice none 0 0, .int .i64 (n : Nat), .int .i64 3])) w' := by
  have e : lexWords t = ([], t.length - m, 3) := by unfold lexWords; rw [h]
  refine ⟨none, 0, ?_, ?_, hk⟩
  · rw [e]; simp [hn]
  · rw [e]; exact OwnStrs.nil _ _

theorem fits_r (n : Int) (r : Bool) (w : World) (h0 : 0 ≤ n) (hr : Hid (decide (1 ≤ n ∧ n ≤ 31) = r)) :
    Calls Try.prog 67 #[.int .i64 n] w fun e w' => e = .returned (.bool r) ∧ w = w' :=
  (fits_any n w h0).mono fun e w' ⟨he, hw⟩ => ⟨by rw [he, hr.out], hw⟩
theorem lexL_hash' {c : UInt8} {r : List UInt8} (h : c = 35) : lexL (c :: r) = lexL (r.drop (clen r)) := by subst h; exact lexL_hash
end Go.Proofs.Ytdjmhjgfjbcdkaa
