/-
  One more, byte by byte, in place: plain mathematics. Conditions: in each statement.
-/
import Derived.Test.YtooaaacingaapaaOneK
namespace Go.Proofs.Ytooaaacingaapaa.OneM

/-- The first j bytes have turned to noughts. -/
def incT (l : List UInt8) (j : Nat) : List UInt8 := List.replicate j 0 ++ l.drop j
theorem incT_len (l : List UInt8) (j : Nat) (h : j ≤ l.length) : (incT l j).length = l.length := by simp [incT]; omega
theorem incT_zero (l : List UInt8) : incT l 0 = l := by simp [incT]
/-- .. and what is carried goes on behind them. -/
def IncI (l : List UInt8) (j : Nat) : Prop := incL l = List.replicate j 0 ++ incL (l.drop j)
theorem IncI.zero (l : List UInt8) : IncI l 0 := by simp [IncI]
theorem incT_at (l : List UInt8) (j : Nat) (h : j < l.length) : (incT l j)[j]'(by rw [incT_len l j (by omega)]; exact h) = l[j] := by
  unfold incT
  rw [List.getElem_append_right (by simp)]
  simp
theorem incT_set (l : List UInt8) (j : Nat) (h : j < l.length) (x : UInt8) : (incT l j).set j x = List.replicate j 0 ++ x :: l.drop (j + 1) := by
  unfold incT
  rw [List.set_append, if_neg (by simp), List.length_replicate, Nat.sub_self, List.drop_eq_getElem_cons h, List.set_cons_zero]
theorem incL_cons (x : UInt8) (r : List UInt8) : incL (x :: r) = if x + 1 ≠ 0 then (x + 1) :: r else 0 :: incL r := rfl
theorem inc_wrap {l : List UInt8} {j : Nat} (hi : IncI l j) (h : j < l.length) (h0 : l[j] + 1 = 0) : (incT l j).set j (l[j] + 1) = incT l (j + 1) ∧ IncI l (j + 1) := by
  constructor
  · rw [incT_set l j h, h0]
    unfold incT
    rw [List.replicate_succ', List.append_assoc]
    rfl
  · unfold IncI at hi ⊢
    rw [hi, List.drop_eq_getElem_cons h, incL_cons, if_neg (by simpa using h0), List.replicate_succ', List.append_assoc]
    rfl
theorem inc_stop {l : List UInt8} {j : Nat} (hi : IncI l j) (h : j < l.length) (h0 : l[j] + 1 ≠ 0) : (incT l j).set j (l[j] + 1) = incL l := by
  unfold IncI at hi
  rw [incT_set l j h, hi, List.drop_eq_getElem_cons h, incL_cons, if_pos h0]
theorem inc_end {l : List UInt8} (hi : IncI l l.length) : incT l l.length = incL l := by
  unfold IncI at hi
  rw [hi]
  unfold incT
  rw [List.drop_length]
  rfl
theorem head_set (a b : List UInt8) (k j : Nat) (h : a.length = k) (x : UInt8) : (a ++ b).set (k + j) x = a ++ b.set j x := by
  rw [List.set_append, if_neg (by omega), h, Nat.add_sub_cancel_left]
theorem head_at (a b : List UInt8) (k j : Nat) (h : a.length = k) (hj : j < b.length) : (a ++ b)[k + j]'(by simp; omega) = b[j] := by
  rw [List.getElem_append_right (by omega)]
  simp [h]
end Go.Proofs.Ytooaaacingaapaa.OneM
