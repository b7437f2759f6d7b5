/-
  The words of a block and their schedule, as an array of 80 words filled step by step: plain mathematics. Conditions: in each statement.
-/
import Derived.Test.YtmmmogccjopfeaaDoorWideX
namespace Go.Proofs.YtmmmogccjopfeaaDoor.WideSched
open WideM WideX WideTurnW

/-- Word i after p bytes. -/
def pw (l : List UInt8) (p : Nat) : List Nat := (List.range 80).map fun i => VecM.val (((l.take p).drop (8 * i)).take 8)
theorem pw_len (l : List UInt8) (p : Nat) : (pw l p).length = 80 := by simp [pw]
theorem pw_at (l : List UInt8) (p i : Nat) (h : i < 80) : (pw l p).getD i 0 = VecM.val (((l.take p).drop (8 * i)).take 8) := by
  simp [pw, List.getD_eq_getElem?_getD, h]
theorem pw_zero (l : List UInt8) : pw l 0 = List.replicate 80 0 := by
  apply List.ext_getElem
  · simp [pw]
  · intro i h1 h2
    rw [List.getElem_replicate]
    simp [pw, VecM.val, -List.reduceReplicate]

theorem pw_get (l : List UInt8) (p : Nat) (h : p < l.length) (hl : l.length = 128) : (pw l p).getD (p / 8) 0 < 72057594037927936 ∧ (pw l (p + 1)).getD (p / 8) 0 = (pw l p).getD (p / 8) 0 * 256 + l[p].toNat := by
  rw [pw_at _ _ _ (by omega), pw_at _ _ _ (by omega)]
  have e1 : ((l.take p).drop (8 * (p / 8))).take 8 = (l.take p).drop (8 * (p / 8)) := List.take_of_length_le (by rw [List.length_drop, List.length_take]; omega)
  have e2 : ((l.take (p + 1)).drop (8 * (p / 8))).take 8 = (l.take (p + 1)).drop (8 * (p / 8)) := List.take_of_length_le (by rw [List.length_drop, List.length_take]; omega)
  have e3 : (l.take (p + 1)).drop (8 * (p / 8)) = (l.take p).drop (8 * (p / 8)) ++ [l[p]] := by
    rw [List.take_succ_eq_append_getElem h, List.drop_append_of_le_length (by rw [List.length_take]; omega)]
  rw [e1, e2, e3, VecM.val_snoc]
  refine ⟨?_, rfl⟩
  have h1 := VecM.val_lt ((l.take p).drop (8 * (p / 8)))
  have h2 : ((l.take p).drop (8 * (p / 8))).length ≤ 7 := by rw [List.length_drop, List.length_take]; omega
  have h3 : 256 ^ ((l.take p).drop (8 * (p / 8))).length ≤ 256 ^ 7 := Nat.pow_le_pow_right (by decide) h2
  omega
theorem pw_same (l : List UInt8) (p i : Nat) (h : i ≠ p / 8) : ((l.take (p + 1)).drop (8 * i)).take 8 = ((l.take p).drop (8 * i)).take 8 := by
  apply List.ext_getElem?
  intro j
  simp only [List.getElem?_take, List.getElem?_drop]
  split
  · rename_i hj
    by_cases h1 : 8 * i + j < p
    · rw [if_pos (by omega), if_pos h1]
    · rw [if_neg (by omega), if_neg h1]
  · rfl
theorem pw_set (l : List UInt8) (p : Nat) : (pw l p).set (p / 8) ((pw l (p + 1)).getD (p / 8) 0) = pw l (p + 1) := by
  apply List.ext_getElem
  · simp [pw]
  · intro i h1 h2
    rw [List.getElem_set]
    rw [pw_len] at h2
    split
    · rename_i e
      subst e
      rw [pw_at _ _ _ h2]
      simp [pw]
    · rename_i e
      simp only [pw, List.getElem_map, List.getElem_range]
      rw [pw_same l p i (fun h => e h.symm)]
theorem pw_all (l : List UInt8) (hl : l.length = 128) : pw l 128 = words l ++ List.replicate 64 0 := by
  apply List.ext_getElem
  · simp [pw, words]
  · intro i h1 h2
    rw [pw_len] at h1
    simp only [pw, List.getElem_map, List.getElem_range]
    rw [show l.take 128 = l from List.take_of_length_le (by omega)]
    by_cases h : i < 16
    · rw [List.getElem_append_left (by simp [words]; exact h)]
      simp [words]
    · rw [List.getElem_append_right (by simp [words]; omega)]
      rw [List.drop_of_length_le (by omega), List.getElem_replicate]
      simp [VecM.val]

theorem words_length (l : List UInt8) : (words l).length = 16 := by simp [words]
theorem ext_length (i : Nat) (l : List UInt8) : (ext i (words l)).length = 16 + i := by
  induction i with
  | zero => simp [ext, words]
  | succ i ih => simp [ext, ih]; omega
theorem ext_small (i : Nat) (l : List UInt8) : ∀ n ∈ ext i (words l), n < 18446744073709551616 := by
  induction i with
  | zero =>
    intro n hn
    simp only [ext, words, List.mem_map, List.mem_range] at hn
    obtain ⟨i, _, rfl⟩ := hn
    have h1 := VecM.val_lt ((l.drop (8 * i)).take 8)
    have h2 : ((l.drop (8 * i)).take 8).length ≤ 8 := by rw [List.length_take]; omega
    have h3 : 256 ^ ((l.drop (8 * i)).take 8).length ≤ 256 ^ 8 := Nat.pow_le_pow_right (by decide) h2
    omega
  | succ i ih =>
    intro n hn
    rw [ext, List.mem_append] at hn
    rcases hn with h | h
    · exact ih n h
    · simp at h; subst h; unfold next; exact Nat.mod_lt _ (by decide)

/-- The array when k words stand (16 to 80). -/
def full (l : List UInt8) (k : Nat) : List Nat := ext (k - 16) (words l) ++ List.replicate (80 - k) 0
theorem full_len (l : List UInt8) (k : Nat) (h1 : 16 ≤ k) (h2 : k ≤ 80) : (full l k).length = 80 := by simp [full, ext_length]; omega
theorem full_at (l : List UInt8) (k i : Nat) (h1 : 16 ≤ k) (hi : i < k) : (full l k).getD i 0 = (ext (k - 16) (words l)).getD i 0 := by
  unfold full
  rw [List.getD_eq_getElem?_getD, List.getElem?_append_left (by rw [ext_length]; omega), ← List.getD_eq_getElem?_getD]
theorem full_lt (l : List UInt8) (k i : Nat) (h1 : 16 ≤ k) (hi : i < k) : (full l k).getD i 0 < 18446744073709551616 := by
  rw [full_at l k i h1 hi, List.getD_eq_getElem?_getD, List.getElem?_eq_getElem (by rw [ext_length]; omega)]
  exact ext_small _ l _ (List.getElem_mem _)
/-- The next word, of the four that it looks at. -/
def nx (a b x y : Nat) : Nat := (a + b + ls0 x + ls1 y) % 18446744073709551616
theorem full_set (l : List UInt8) (k : Nat) (h1 : 16 ≤ k) (h2 : k < 80) :
    (full l k).set k (nx ((full l k).getD (k - 16) 0) ((full l k).getD (k - 7) 0) ((full l k).getD (k - 15) 0) ((full l k).getD (k - 2) 0)) = full l (k + 1) := by
  rw [full_at l k _ h1 (by omega), full_at l k _ h1 (by omega), full_at l k _ h1 (by omega), full_at l k _ h1 (by omega)]
  have e : k + 1 - 16 = (k - 16) + 1 := by omega
  have hl : (ext (k - 16) (words l)).length = k := by rw [ext_length]; omega
  unfold full
  rw [e, ext, List.set_append, if_neg (by omega), hl, Nat.sub_self, show 80 - k = (80 - (k + 1)) + 1 from by omega, List.replicate_succ, List.set_cons_zero, List.append_assoc]
  unfold next nx
  rw [hl]
  rfl
theorem full_start (l : List UInt8) : words l ++ List.replicate 64 0 = full l 16 := by simp [full, ext]
theorem full_end (l : List UInt8) : full l 80 = sched l := by simp [full, sched]

theorem or_byte (x : Nat) (y : UInt8) (h : x < 72057594037927936) : Go.bits .or .u64 ((x : Int) * 256 % 18446744073709551616) ((y.toNat : Int) % 18446744073709551616) = ((x * 256 + y.toNat : Nat) : Int) := by
  have hy := y.toNat_lt
  have e : (x : Int) * 256 % 18446744073709551616 = ((x * 256 : Nat) : Int) := by omega
  rw [e, show (y.toNat : Int) % 18446744073709551616 = (y.toNat : Int) by omega, Bits.or_u64 _ _ (by omega) (by omega), ← Nat.mul_comm 256, ← Nat.two_pow_add_eq_or_of_lt (i := 8) (by omega)]
end Go.Proofs.YtmmmogccjopfeaaDoor.WideSched
