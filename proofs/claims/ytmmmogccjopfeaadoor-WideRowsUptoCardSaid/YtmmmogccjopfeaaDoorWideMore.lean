/-
  A message on its way, as plain mathematics: what has been processed, what waits, and how both go on; cells of 64-bit words. Conditions: in each statement.
-/
import Derived.Test.YtmmmogccjopfeaaDoorWideSched
namespace Go.Proofs.YtmmmogccjopfeaaDoor.WideMore
open Go.RowKit BytesW CellsW LongsW ArrW WideM WideX WideTurnW

theorem lc_one (l : List Nat) : ∀ v ∈ lc l, v.oneCell' = true := by
  intro v hv
  simp only [lc, List.mem_map] at hv
  obtain ⟨x, _, rfl⟩ := hv
  rfl
theorem lc_getD (S : List Nat) (k : Nat) (h : k < S.length) : (lc S)[k]? = some (.int .u64 ((S.getD k 0 : Nat) : Int)) := by
  unfold lc
  rw [List.getElem?_map, List.getElem?_eq_getElem h]
  simp [List.getD_eq_getElem?_getD, List.getElem?_eq_getElem h]
theorem lc_set (S : List Nat) (k x : Nat) : (lc S).set k (.int .u64 (x : Int)) = lc (S.set k x) := by unfold lc; rw [List.map_set]
theorem not_max (e : Nat) (h : e < 18446744073709551616) : 18446744073709551615 ^^^ e = 18446744073709551615 - e := by
  apply Nat.eq_of_testBit_eq
  intro i
  rw [Nat.testBit_xor, not_test e i h, show (18446744073709551615 : Nat) = 2 ^ 64 - 1 from rfl, Nat.testBit_two_pow_sub_one]
  by_cases hi : i < 64
  · simp [hi]
  · simp [hi, high_test h hi]

/-- Eight words. -/
def Sm (S : List Nat) : Prop := S.length = 8 ∧ ∀ x ∈ S, x < 18446744073709551616
theorem Sm.at_ {S : List Nat} (h : Sm S) (k : Nat) : S.getD k 0 < 18446744073709551616 := by
  rw [List.getD_eq_getElem?_getD]
  cases e : S[k]? with
  | none => simp
  | some x => exact h.2 x (List.mem_of_getElem? e)
theorem sm_block (s : List Nat) (b : List UInt8) (h : s.length = 8) : Sm (block s b) := by
  refine ⟨by simp [block, St.toList, h], fun x hx => ?_⟩
  unfold block at hx
  obtain ⟨k, hk, rfl⟩ := List.mem_iff_getElem.1 hx
  rw [List.getElem_zipWith]
  omega
theorem sm_run (b : List UInt8) : ∀ s, Sm s → Sm (run s b) := by
  induction hn : b.length using Nat.strongRecOn generalizing b with
  | _ n ih =>
    intro s hs
    rw [run]
    split
    · subst hn
      exact ih _ (by rw [List.length_drop]; omega) _ rfl _ (sm_block _ _ hs.1)
    · exact hs
theorem sm_IV : Sm IV := ⟨rfl, by decide⟩

/-- What waits for its block. -/
def over (l : List UInt8) : List UInt8 := l.drop (l.length / 128 * 128)
theorem over_len (l : List UInt8) : (over l).length = l.length % 128 := by rw [over, List.length_drop]; omega
theorem run_append (y : List UInt8) : ∀ (n : Nat) (x : List UInt8) (S : List Nat), x.length = 128 * n → run S (x ++ y) = run (run S x) y := by
  intro n
  induction n with
  | zero =>
    intro x S h
    obtain rfl : x = [] := List.length_eq_zero_iff.1 (by omega)
    rw [List.nil_append, show run S [] = S from by rw [run]; rfl]
  | succ n ih =>
    intro x S h
    have h1 : 128 ≤ (x ++ y).length := by rw [List.length_append]; omega
    rw [run, dif_pos h1, List.take_append_of_le_length (by omega), List.drop_append_of_le_length (by omega), ih _ _ (by rw [List.length_drop]; omega)]
    congr 1
    conv => rhs; rw [run, dif_pos (by omega)]
theorem run_lt (S : List Nat) (x : List UInt8) (h : x.length < 128) : run S x = S := by rw [run, dif_neg (by omega)]
theorem split_at (x : List UInt8) : x.take (x.length / 128 * 128) ++ over x = x := List.take_append_drop _ _
theorem take_len (x : List UInt8) : (x.take (x.length / 128 * 128)).length = 128 * (x.length / 128) := by rw [List.length_take]; omega
theorem run_head (S : List Nat) (x : List UInt8) : run S (x.take (x.length / 128 * 128)) = run S x := by
  conv => rhs; rw [← split_at x, run_append _ _ _ _ (take_len x), run_lt _ (over x) (by rw [over_len]; omega)]
theorem over_append (x y : List UInt8) (h : x.length % 128 + y.length < 128) : over (x ++ y) = over x ++ y := by
  unfold over
  rw [List.length_append, show (x.length + y.length) / 128 = x.length / 128 by omega, List.drop_append_of_le_length (by omega)]
theorem run_fill (S : List Nat) (x y : List UInt8) (h : x.length % 128 + y.length < 128) : run S (x ++ y) = run S x := by
  rw [← run_head, ← run_head S x, List.length_append, show (x.length + y.length) / 128 = x.length / 128 by omega, List.take_append_of_le_length (by omega)]
theorem run_full (S : List Nat) (x y : List UInt8) (h : x.length % 128 + y.length = 128) : run S (x ++ y) = block (run S x) (over x ++ y) := by
  conv => lhs; rw [← split_at x, List.append_assoc, run_append _ _ _ _ (take_len x), run_head]
  have hl : (over x ++ y).length = 128 := by rw [List.length_append, over_len]; exact h
  rw [run, dif_pos (by omega), List.take_of_length_le (by omega), List.drop_of_length_le (by omega), run_lt _ _ (by simp)]
theorem over_full (x : List UInt8) (h : x.length % 128 = 0) : over x = [] := List.length_eq_zero_iff.1 (by rw [over_len]; exact h)

/-- The padding behind n bytes. -/
def tail (n : Nat) : List UInt8 := [128] ++ List.replicate ((239 - n % 128) % 128) 0 ++ VecM.be 16 (n * 8)
theorem tail_pad (l : List UInt8) : pad l l.length = l ++ tail l.length := by
  unfold pad tail zeros
  rw [show (128 - (l.length + 17) % 128) % 128 = (239 - l.length % 128) % 128 by omega]
  simp only [List.append_assoc]
theorem tail_len (n : Nat) : (tail n).length = 17 + (239 - n % 128) % 128 := by
  unfold tail
  rw [List.length_append, List.length_append, List.length_replicate, VecM.be_length]
  simp
  omega
theorem sum_tail (l : List UInt8) : sum l = digest (run IV (l ++ tail l.length)) := by
  unfold sum hend
  rw [tail_pad]
theorem tail_mod (l : List UInt8) : (l ++ tail l.length).length % 128 = 0 := by rw [List.length_append, tail_len]; omega
end Go.Proofs.YtmmmogccjopfeaaDoor.WideMore
