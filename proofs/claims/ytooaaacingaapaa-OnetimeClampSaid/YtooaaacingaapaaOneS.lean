/-
  Poly1305: products of digits, the tag, as plain mathematics. Conditions: in each statement.
-/
import Derived.Test.YtooaaacingaapaaOneC
namespace Go.Proofs.Ytooaaacingaapaa.OneM

theorem num_take (d : List Nat) : ∀ k, k < d.length → num (d.take (k + 1)) = num (d.take k) + d.getD k 0 * 8192 ^ k := by
  induction d with
  | nil => intro k h; exact absurd h (by simp)
  | cons y r ih =>
    intro k h
    cases k with
    | zero => simp [num]
    | succ k =>
      have := ih k (by simpa using h)
      rw [List.take_succ_cons, List.take_succ_cons, num, num, this, List.getD_cons_succ, Nat.pow_succ, Nat.mul_add]
      have e : r.getD k 0 * (8192 ^ k * 8192) = 8192 * (r.getD k 0 * 8192 ^ k) := by rw [← Nat.mul_assoc, Nat.mul_comm]
      rw [e]
      omega
theorem num_all (d : List Nat) (k : Nat) (h : d.length ≤ k) : num (d.take k) = num d := by rw [List.take_of_length_le h]
theorem num_ten (d : List Nat) (hl : d.length = 11) (h10 : d.getD 10 0 = 0) : num (d.take 10) = num d := by
  have h := num_take d 10 (by omega)
  rw [num_all d 11 (by omega), h10] at h
  omega
/-- 2^130 counts five. -/
theorem wrap_five (z m : Nat) : (5 * z * 8192 ^ m) % pp = (z * 8192 ^ (m + 10)) % pp := by
  have e : (8192 : Nat) ^ 10 = pp + 5 := by decide
  rw [Nat.pow_add, e, ← Nat.mul_assoc, Nat.mul_add, Nat.mul_comm (z * 8192 ^ m) pp, Nat.mul_add_mod, Nat.mul_comm (z * 8192 ^ m) 5, ← Nat.mul_assoc]
/-- One product is added. -/
def prodS (nx y x : List Nat) (i j : Nat) : List Nat := if i + j < 10 then nx.set (i + j) (nx.getD (i + j) 0 + y.getD i 0 * x.getD j 0) else nx.set (i + j - 10) (nx.getD (i + j - 10) 0 + 5 * y.getD i 0 * x.getD j 0)
theorem prodS_len (nx y x : List Nat) (i j : Nat) : (prodS nx y x i j).length = nx.length := by unfold prodS; split <;> simp
theorem prodS_num (nx y x : List Nat) (i j : Nat) (hl : nx.length = 11) (hi : i < 10) (hj : j < 10) : num (prodS nx y x i j) % pp = (num nx + y.getD i 0 * x.getD j 0 * 8192 ^ (i + j)) % pp := by
  unfold prodS
  by_cases h : i + j < 10
  · rw [if_pos h]
    have h1 := num_set nx (i + j) (nx.getD (i + j) 0 + y.getD i 0 * x.getD j 0) (by omega)
    rw [Nat.add_mul] at h1
    congr 1
    omega
  · rw [if_neg h]
    have h1 := num_set nx (i + j - 10) (nx.getD (i + j - 10) 0 + 5 * y.getD i 0 * x.getD j 0) (by omega)
    rw [Nat.add_mul] at h1
    have h2 : num (nx.set (i + j - 10) (nx.getD (i + j - 10) 0 + 5 * y.getD i 0 * x.getD j 0)) = num nx + 5 * (y.getD i 0 * x.getD j 0) * 8192 ^ (i + j - 10) := by
      rw [Nat.mul_assoc 5] at h1 ⊢
      omega
    rw [h2, Nat.add_mod, wrap_five, show i + j - 10 + 10 = i + j by omega, ← Nat.add_mod]
/-- No product is more. -/
def cc : Nat := 335462405
/-- The cells stay small. -/
def Small (nx : List Nat) (n : Nat) : Prop := nx.length = 11 ∧ (∀ m, m < 11 → nx.getD m 0 ≤ n * cc) ∧ nx.getD 10 0 = 0
theorem small_step (nx y x : List Nat) (i j n : Nat) (h : Small nx n) (hi : i < 10) (hj : j < 10) (hy : y.getD i 0 < 8192) (hx : x.getD j 0 < 8192) : Small (prodS nx y x i j) (n + 1) := by
  obtain ⟨h1, h2, h3⟩ := h
  have hm : y.getD i 0 * x.getD j 0 ≤ 8191 * 8191 := Nat.mul_le_mul (by omega) (by omega)
  have hm5 : 5 * y.getD i 0 * x.getD j 0 ≤ cc := by
    rw [Nat.mul_assoc]
    unfold cc
    omega
  have hm1 : y.getD i 0 * x.getD j 0 ≤ cc := by unfold cc; omega
  have hs : (n + 1) * cc = n * cc + cc := Nat.succ_mul n cc
  refine ⟨by rw [prodS_len]; exact h1, fun m hm11 => ?_, ?_⟩
  · have h4 := h2 m hm11
    rw [hs]
    unfold prodS
    split
    · by_cases e : m = i + j
      · subst e
        rw [getD_set_same _ _ _ (by omega)]
        exact Nat.add_le_add h4 hm1
      · rw [getD_set_ne _ _ _ _ e]
        exact Nat.le_trans h4 (Nat.le_add_right _ _)
    · by_cases e : m = i + j - 10
      · subst e
        rw [getD_set_same _ _ _ (by omega)]
        exact Nat.add_le_add h4 hm5
      · rw [getD_set_ne _ _ _ _ e]
        exact Nat.le_trans h4 (Nat.le_add_right _ _)
  · unfold prodS
    split
    · rw [getD_set_ne _ _ _ _ (by omega)]
      exact h3
    · rw [getD_set_ne _ _ _ _ (by omega)]
      exact h3
theorem Small.start {nx : List Nat} {n : Nat} (h : Small nx n) (hn : n ≤ 100) : StartC nx := by
  obtain ⟨h1, h2, h3⟩ := h
  refine ⟨h1, fun m hm => ?_, by rw [h3]; decide⟩
  have h4 := h2 m hm
  have h5 : n * cc ≤ 100 * cc := Nat.mul_le_mul_right _ hn
  have h6 : 100 * cc < 2 ^ 44 := by decide
  omega
/-- What the first i digits of y, and of digit i the first j of x, make. -/
def madeS (y x : List Nat) (i j : Nat) : Nat := num (y.take i) * num (x.take 10) + y.getD i 0 * 8192 ^ i * num (x.take j)
theorem madeS_step (y x : List Nat) (i j : Nat) (hx : x.length = 11) (hj : j < 10) : madeS y x i (j + 1) = madeS y x i j + y.getD i 0 * x.getD j 0 * 8192 ^ (i + j) := by
  unfold madeS
  rw [num_take x j (by omega), Nat.mul_add, Nat.pow_add]
  have e : y.getD i 0 * 8192 ^ i * (x.getD j 0 * 8192 ^ j) = y.getD i 0 * x.getD j 0 * (8192 ^ i * 8192 ^ j) := by
    rw [Nat.mul_assoc, Nat.mul_left_comm (8192 ^ i), ← Nat.mul_assoc]
  rw [e]
  omega
theorem madeS_row (y x : List Nat) (i : Nat) (hy : y.length = 11) (hi : i < 10) : madeS y x i 10 = madeS y x (i + 1) 0 := by
  unfold madeS
  rw [num_take y i (by omega), Nat.add_mul, List.take_zero, show num ([] : List Nat) = 0 from rfl, Nat.mul_zero, Nat.add_zero]
theorem madeS_zero (y x : List Nat) : madeS y x 0 0 = 0 := by
  unfold madeS
  rw [List.take_zero, List.take_zero, show num ([] : List Nat) = 0 from rfl]
  simp
theorem madeS_all (y x : List Nat) (hy : DoneC y) (hx : DoneC x) : madeS y x 10 0 = num y * num x := by
  unfold madeS
  rw [num_ten y hy.1 hy.2.2, num_ten x hx.1 hx.2.2, List.take_zero, show num ([] : List Nat) = 0 from rfl, Nat.mul_zero, Nat.add_zero]
end Go.Proofs.Ytooaaacingaapaa.OneM
