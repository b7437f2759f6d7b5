/-
  Messages in parts: what the states and the rests of a message are when it comes in pieces. Plain mathematics; no program is named here. Conditions: in each statement.
-/
import Derived.Test.YtnlhcogmccladaaDoorHashX
namespace Go.Proofs.YtnlhcogmccladaaDoor.HashMath
open HashM HashX

/-- What lies behind the last whole block. -/
def over (l : List UInt8) : List UInt8 := l.drop (l.length / 64 * 64)
theorem over_len (l : List UInt8) : (over l).length = l.length % 64 := by rw [over, List.length_drop]; omega
theorem over_lt (l : List UInt8) : (over l).length < 64 := by rw [over_len]; omega
theorem over_small (l : List UInt8) (h : l.length < 64) : over l = l := by rw [over, show l.length / 64 = 0 by omega]; rfl
theorem run_append (y : List UInt8) : ∀ (n : Nat) (x : List UInt8) (S : List Nat), x.length = 64 * n → run S (x ++ y) = run (run S x) y := by
  intro n
  induction n with
  | zero =>
    intro x S h
    obtain rfl := List.eq_nil_of_length_eq_zero (by omega : x.length = 0)
    rw [run_stop S [] (by simp), List.nil_append]
  | succ n ih =>
    intro x S h
    rw [run_next S (x ++ y) (by rw [List.length_append]; omega), run_next S x (by omega), List.take_append_of_le_length (by omega), List.drop_append_of_le_length (by omega)]
    exact ih _ _ (by rw [List.length_drop]; omega)
theorem split_at (x : List UInt8) : x.take (x.length / 64 * 64) ++ over x = x := List.take_append_drop _ _
theorem take_len (x : List UInt8) : (x.take (x.length / 64 * 64)).length = 64 * (x.length / 64) := by rw [List.length_take]; omega
theorem run_head (S : List Nat) (x : List UInt8) : run S (x.take (x.length / 64 * 64)) = run S x := by
  conv => rhs; rw [← split_at x]
  rw [run_append _ _ _ S (take_len x), run_stop _ _ (over_lt x)]
theorem run_more (S : List Nat) (x y : List UInt8) : run S (x ++ y) = run (run S x) (over x ++ y) := by
  conv => lhs; rw [← split_at x, List.append_assoc]
  rw [run_append _ _ _ S (take_len x), run_head]
theorem over_append (y : List UInt8) (n : Nat) (x : List UInt8) (h : x.length = 64 * n) : over (x ++ y) = over y := by
  unfold over
  rw [List.length_append, h, show (64 * n + y.length) / 64 * 64 = 64 * n + y.length / 64 * 64 by omega, ← h, ← List.drop_drop, List.drop_left]
theorem over_more (x y : List UInt8) : over (x ++ y) = over (over x ++ y) := by
  conv => lhs; rw [← split_at x, List.append_assoc]
  exact over_append _ _ _ (take_len x)
theorem zeros_mod (n : Nat) : zeros (n % 64) = zeros n := by unfold zeros; omega
theorem pad_split (b : List UInt8) (n : Nat) : pad b n = b.take (b.length / 64 * 64) ++ pad (over b) n := by
  unfold pad
  rw [over_len, zeros_mod, ← List.append_assoc, ← List.append_assoc, ← List.append_assoc, split_at]
theorem hend_run (S : List Nat) (b : List UInt8) (n : Nat) : hend (run S b) (over b) n = hend S b n := by
  unfold hend
  rw [pad_split b n, run_append _ _ _ S (take_len b), run_head]
/-- A message in two pieces: the second begins where the first one's block is full. -/
theorem run_two (S : List Nat) (r b : List UInt8) (k : Nat) (h : r.length + k = 64) (hk : k ≤ b.length) : run (run S (r ++ b.take k)) (b.drop k) = run S (r ++ b) := by
  rw [← run_append _ 1 _ S (by rw [List.length_append, List.length_take]; omega), List.append_assoc, List.take_append_drop]
theorem over_two (r b : List UInt8) (k : Nat) (h : r.length + k = 64) (hk : k ≤ b.length) : over (b.drop k) = over (r ++ b) := by
  rw [← over_append (b.drop k) 1 (r ++ b.take k) (by rw [List.length_append, List.length_take]; omega), List.append_assoc, List.take_append_drop]
theorem hend_len (S : List Nat) (hS : Sm S) (b : List UInt8) (n : Nat) : (hend S b n).length = 32 := digest_len _ (sm_run _ _ hS).1
end Go.Proofs.YtnlhcogmccladaaDoor.HashMath
