/-
  Poly1305 with words of 64 bits: numbers as words, their sums and products, the reduction: plain mathematics. Conditions: in each statement.
-/
import Derived.Test.YtooaaacingaapaaOneK
namespace Go.Proofs.Ytooaaacingaapaa.OneN
open OneM

/-- A number's words, the least first. -/
def wd (v n : Nat) : List Nat := (List.range n).map fun k => v / 18446744073709551616 ^ k % 18446744073709551616
theorem wd_len (v n : Nat) : (wd v n).length = n := by simp [wd]
theorem wd_at (v n k : Nat) (h : k < n) : (wd v n).getD k 0 = v / 18446744073709551616 ^ k % 18446744073709551616 := by
  rw [List.getD_eq_getElem?_getD]
  unfold wd
  rw [List.getElem?_map, List.getElem?_range h]
  rfl
theorem wd_lt (v n k : Nat) : (wd v n).getD k 0 < 18446744073709551616 := by
  by_cases h : k < n
  · rw [wd_at v n k h]; exact Nat.mod_lt _ (by decide)
  · rw [List.getD_eq_getElem?_getD, List.getElem?_eq_none (by rw [wd_len]; omega)]; decide
theorem wd_ext (L : List Nat) (v n : Nat) (hl : L.length = n) (h : ∀ k, k < n → L.getD k 0 = v / 18446744073709551616 ^ k % 18446744073709551616) : L = wd v n := by
  apply List.ext_getElem?
  intro k
  by_cases hk : k < n
  · have h1 := h k hk
    rw [← wd_at v n k hk, List.getD_eq_getElem?_getD, List.getD_eq_getElem?_getD, List.getElem?_eq_getElem (by omega), List.getElem?_eq_getElem (by rw [wd_len]; exact hk)] at h1
    rw [List.getElem?_eq_getElem (by omega), List.getElem?_eq_getElem (by rw [wd_len]; exact hk)]
    exact congrArg some h1
  · rw [List.getElem?_eq_none (by omega), List.getElem?_eq_none (by rw [wd_len]; omega)]
theorem wd_zero (n : Nat) : wd 0 n = List.replicate n 0 := by
  refine (wd_ext _ 0 n (by simp) fun k hk => ?_).symm
  rw [List.getD_eq_getElem?_getD, List.getElem?_replicate, if_pos hk, Nat.zero_div]
  rfl
theorem getD_set_same' (d : List Nat) (k x : Nat) (h : k < d.length) : (d.set k x).getD k 0 = x := by
  rw [List.getD_eq_getElem?_getD, List.getElem?_set_self h]; rfl
theorem getD_set_ne' (d : List Nat) (k m x : Nat) (h : m ≠ k) : (d.set k x).getD m 0 = d.getD m 0 := by
  rw [List.getD_eq_getElem?_getD, List.getElem?_set_ne (fun e => h e.symm), ← List.getD_eq_getElem?_getD]

/-- The number of words in base B. -/
def numB (B : Nat) : List Nat → Nat
  | [] => 0
  | x :: r => x + B * numB B r
theorem numB_set (B : Nat) (d : List Nat) : ∀ (k x : Nat), k < d.length → numB B (d.set k x) + d.getD k 0 * B ^ k = numB B d + x * B ^ k := by
  induction d with
  | nil => intro k x h; exact absurd h (by simp)
  | cons y r ih =>
    intro k x h
    cases k with
    | zero => rw [List.set_cons_zero, numB, numB, List.getD_cons_zero, Nat.pow_zero, Nat.mul_one, Nat.mul_one]; omega
    | succ k =>
      have h1 := ih k x (by simpa using h)
      rw [List.set_cons_succ, numB, numB, List.getD_cons_succ, Nat.pow_succ]
      have e1 : r.getD k 0 * (B ^ k * B) = B * (r.getD k 0 * B ^ k) := by rw [← Nat.mul_assoc, Nat.mul_comm]
      have e2 : x * (B ^ k * B) = B * (x * B ^ k) := by rw [← Nat.mul_assoc, Nat.mul_comm]
      have h2 := congrArg (B * ·) h1
      simp only [Nat.mul_add] at h2
      rw [e1, e2]
      omega
theorem numB_at (B : Nat) (hB : 0 < B) (d : List Nat) (hd : ∀ k, d.getD k 0 < B) : ∀ k, numB B d / B ^ k % B = d.getD k 0 := by
  induction d with
  | nil => intro k; simp [numB]
  | cons y r ih =>
    have hr : ∀ k, r.getD k 0 < B := fun k => by have := hd (k + 1); rwa [List.getD_cons_succ] at this
    have hy : y < B := by have := hd 0; rwa [List.getD_cons_zero] at this
    intro k
    cases k with
    | zero => rw [numB, Nat.pow_zero, Nat.div_one, List.getD_cons_zero, Nat.add_mul_mod_self_left, Nat.mod_eq_of_lt hy]
    | succ k =>
      rw [numB, List.getD_cons_succ, Nat.pow_succ, Nat.mul_comm (B ^ k) B, ← Nat.div_div_eq_div_mul, Nat.add_mul_div_left _ _ hB, Nat.div_eq_of_lt hy, Nat.zero_add]
      exact ih hr k
theorem wd_num (L : List Nat) (n : Nat) (hl : L.length = n) (h : ∀ k, L.getD k 0 < 18446744073709551616) : L = wd (numB 18446744073709551616 L) n :=
  wd_ext L _ n hl fun k _ => (numB_at _ (by decide) L h k).symm

/-! ### Sums -/
/-- The carry into word k. -/
def carB (B x y k : Nat) : Nat := (x % B ^ k + y % B ^ k) / B ^ k
theorem carB_zero (B x y : Nat) : carB B x y 0 = 0 := by simp [carB, Nat.mod_one]
theorem carB_le (B x y k : Nat) (hB : 0 < B) : carB B x y k ≤ 1 := by
  unfold carB
  have hp : 0 < B ^ k := Nat.pow_pos hB
  have h1 := Nat.mod_lt x hp
  have h2 := Nat.mod_lt y hp
  have : (x % B ^ k + y % B ^ k) / B ^ k < 2 := Nat.div_lt_of_lt_mul (by omega)
  omega
theorem carB_step (B X Y k : Nat) (hB : 0 < B) : (X / B ^ k % B + Y / B ^ k % B + carB B X Y k) % B = (X + Y) / B ^ k % B ∧ (X / B ^ k % B + Y / B ^ k % B + carB B X Y k) / B = carB B X Y (k + 1) := by
  unfold carB
  obtain ⟨P, hP⟩ : ∃ P, B ^ k = P := ⟨_, rfl⟩
  have hp : 0 < P := by rw [← hP]; exact Nat.pow_pos hB
  have hx : X % (P * B) = X % P + P * (X / P % B) := Nat.mod_mul
  have hy : Y % (P * B) = Y % P + P * (Y / P % B) := Nat.mod_mul
  rw [Nat.pow_succ, hP, hx, hy]
  have hdx := Nat.div_add_mod X P
  have hdy := Nat.div_add_mod Y P
  obtain ⟨x0, h1⟩ : ∃ z, X % P = z := ⟨_, rfl⟩
  obtain ⟨y0, h2⟩ : ∃ z, Y % P = z := ⟨_, rfl⟩
  obtain ⟨x1, h3⟩ : ∃ z, X / P = z := ⟨_, rfl⟩
  obtain ⟨y1, h4⟩ : ∃ z, Y / P = z := ⟨_, rfl⟩
  rw [h1, h3] at hdx
  rw [h2, h4] at hdy
  rw [h1, h2, h3, h4]
  constructor
  · have e : (X + Y) / P = (x0 + y0) / P + (x1 + y1) := by
      rw [← hdx, ← hdy, show P * x1 + x0 + (P * y1 + y0) = x0 + y0 + P * (x1 + y1) by rw [Nat.mul_add]; omega, Nat.add_mul_div_left _ _ hp]
    rw [e, Nat.add_comm ((x0 + y0) / P) (x1 + y1), Nat.add_mod (x1 % B + y1 % B), ← Nat.add_mod x1 y1 B, ← Nat.add_mod]
  · rw [show x0 + P * (x1 % B) + (y0 + P * (y1 % B)) = x0 + y0 + P * (x1 % B + y1 % B) by rw [Nat.mul_add]; omega, ← Nat.div_div_eq_div_mul, Nat.add_mul_div_left _ _ hp]
    congr 1
    omega
/-- The first k words, noughts behind them. -/
def fst (v n k : Nat) : List Nat := (wd v n).take k ++ List.replicate (n - k) 0
theorem fst_zero (v n : Nat) : fst v n 0 = wd 0 n := by rw [wd_zero]; simp [fst]
theorem fst_len (v n k : Nat) (h : k ≤ n) : (fst v n k).length = n := by simp [fst, wd_len]; omega
theorem fst_all (v n : Nat) : fst v n n = wd v n := by
  unfold fst
  rw [List.take_of_length_le (by rw [wd_len]; exact Nat.le_refl _), Nat.sub_self]
  simp
theorem fst_set (v n k : Nat) (h : k < n) : (fst v n k).set k (v / 18446744073709551616 ^ k % 18446744073709551616) = fst v n (k + 1) := by
  have h1 : ((wd v n).take k).length = k := by rw [List.length_take, wd_len]; omega
  have h2 := wd_at v n k h
  rw [List.getD_eq_getElem?_getD, List.getElem?_eq_getElem (by rw [wd_len]; exact h), Option.getD_some] at h2
  unfold fst
  rw [List.set_append, if_neg (by omega), h1, Nat.sub_self, show n - k = (n - (k + 1)) + 1 by omega, List.replicate_succ, List.set_cons_zero, List.take_succ_eq_append_getElem (by rw [wd_len]; exact h), h2, List.append_assoc]
  rfl

/-! ### Products -/
/-- Behind i rows. -/
def RowI (x y i : Nat) (L : List Nat) : Prop := L.length = 6 ∧ (∀ k, L.getD k 0 < 18446744073709551616) ∧ (∀ k, i + 3 ≤ k → L.getD k 0 = 0) ∧ numB 18446744073709551616 L = x % 18446744073709551616 ^ i * y
/-- .. and j products of row i. -/
def MulI (x y i j : Nat) (L : List Nat) (c : Nat) : Prop :=
  L.length = 6 ∧ (∀ k, L.getD k 0 < 18446744073709551616) ∧ (∀ k, i + 3 ≤ k → L.getD k 0 = 0) ∧ c < 18446744073709551616 ∧
  numB 18446744073709551616 L + c * 18446744073709551616 ^ (i + j) = x % 18446744073709551616 ^ i * y + x / 18446744073709551616 ^ i % 18446744073709551616 * (y % 18446744073709551616 ^ j) * 18446744073709551616 ^ i
theorem RowI.start (x y : Nat) : RowI x y 0 (wd 0 6) := by
  rw [wd_zero]
  refine ⟨by simp, fun k => ?_, fun k _ => ?_, ?_⟩
  · rw [List.getD_eq_getElem?_getD, List.getElem?_replicate]; split <;> decide
  · rw [List.getD_eq_getElem?_getD, List.getElem?_replicate]; split <;> rfl
  · rw [Nat.pow_zero, Nat.mod_one, Nat.zero_mul]; rfl
theorem RowI.mul {x y i : Nat} {L : List Nat} (h : RowI x y i L) : MulI x y i 0 L 0 := by
  obtain ⟨h1, h2, h3, h4⟩ := h
  exact ⟨h1, h2, h3, by decide, by rw [h4, Nat.pow_zero, Nat.mod_one, Nat.mul_zero, Nat.zero_mul, Nat.zero_mul]⟩
theorem two_words (a b c d B : Nat) (ha : a < B) (hb : b < B) (hc : c < B) (hd : d < B) : (a * b + c + d) / B < B := by
  refine Nat.div_lt_of_lt_mul ?_
  have h1 : a * b ≤ (B - 1) * (B - 1) := Nat.mul_le_mul (by omega) (by omega)
  obtain ⟨z, rfl⟩ : ∃ z, B = z + 1 := ⟨B - 1, by omega⟩
  rw [Nat.add_sub_cancel] at h1
  rw [Nat.mul_add, Nat.add_mul]
  omega
theorem mul_num (B n l t a b c z i j y X : Nat) (h : n + c * B ^ (i + j) = X + a * (y % B ^ j) * B ^ i) (hb : b = y / B ^ j % B) (ht : t = a * b + l + c) (hz : z + l * B ^ (i + j) = n + t % B * B ^ (i + j)) :
    z + t / B * B ^ (i + (j + 1)) = X + a * (y % B ^ (j + 1)) * B ^ i := by
  have e1 : B ^ (i + (j + 1)) = B * B ^ (i + j) := by rw [← Nat.add_assoc, Nat.pow_succ, Nat.mul_comm]
  have e2 : y % B ^ (j + 1) = y % B ^ j + B ^ j * b := by rw [Nat.pow_succ, Nat.mod_mul, ← hb]
  have e3 : B ^ (i + j) = B ^ j * B ^ i := by rw [Nat.add_comm, Nat.pow_add]
  rw [e1, e2, Nat.mul_add, Nat.add_mul, ← Nat.mul_assoc (t / B)]
  have e4 : t = B * (t / B) + t % B := (Nat.div_add_mod t B).symm
  have e5 : a * (B ^ j * b) * B ^ i = a * b * B ^ (i + j) := by rw [e3, Nat.mul_comm (B ^ j) b, ← Nat.mul_assoc a b, Nat.mul_assoc (a * b)]
  rw [e5]
  obtain ⟨P, hP⟩ : ∃ P, B ^ (i + j) = P := ⟨_, rfl⟩
  rw [hP] at h hz ⊢
  have e6 : t * P = a * b * P + l * P + c * P := by rw [ht, Nat.add_mul, Nat.add_mul]
  have e7 : t * P = t / B * B * P + t % B * P := by
    have := congrArg (· * P) e4
    simp only [Nat.add_mul] at this
    rw [Nat.mul_comm B (t / B)] at this
    exact this
  omega
theorem MulI.step {x y i j : Nat} {L : List Nat} {c : Nat} (h : MulI x y i j L c) (hi : i < 3) (hj : j < 3) (a b t : Nat) (ha : a = x / 18446744073709551616 ^ i % 18446744073709551616) (hb : b = y / 18446744073709551616 ^ j % 18446744073709551616) (ht : t = a * b + L.getD (i + j) 0 + c) :
    MulI x y i (j + 1) (L.set (i + j) (t % 18446744073709551616)) (t / 18446744073709551616) := by
  obtain ⟨h1, h2, h3, h4, h5⟩ := h
  have hB : (0 : Nat) < 18446744073709551616 := by decide
  refine ⟨by rw [List.length_set]; exact h1, fun k => ?_, fun k hk => ?_, ?_, ?_⟩
  · by_cases e : k = i + j
    · subst e; rw [getD_set_same' _ _ _ (by omega)]; exact Nat.mod_lt _ hB
    · rw [getD_set_ne' _ _ _ _ e]; exact h2 k
  · rw [getD_set_ne' _ _ _ _ (by omega)]; exact h3 k hk
  · rw [ht]
    exact two_words a b _ c _ (by rw [ha]; exact Nat.mod_lt _ hB) (by rw [hb]; exact Nat.mod_lt _ hB) (h2 _) h4
  · have h6 := numB_set 18446744073709551616 L (i + j) (t % 18446744073709551616) (by omega)
    rw [← ha] at h5 ⊢
    exact mul_num _ _ _ t a b c _ i j y _ h5 hb ht h6
theorem MulI.row {x y i : Nat} {L : List Nat} {c : Nat} (h : MulI x y i 3 L c) (hi : i < 3) (hy : y < 18446744073709551616 ^ 3) : RowI x y (i + 1) (L.set (i + 3) c) := by
  obtain ⟨h1, h2, h3, h4, h5⟩ := h
  refine ⟨by rw [List.length_set]; exact h1, fun k => ?_, fun k hk => ?_, ?_⟩
  · by_cases e : k = i + 3
    · subst e; rw [getD_set_same' _ _ _ (by omega)]; exact h4
    · rw [getD_set_ne' _ _ _ _ e]; exact h2 k
  · rw [getD_set_ne' _ _ _ _ (by omega)]; exact h3 k (by omega)
  · have h6 := numB_set 18446744073709551616 L (i + 3) c (by omega)
    rw [h3 (i + 3) (Nat.le_refl _), Nat.zero_mul, Nat.add_zero, h5, Nat.mod_eq_of_lt hy] at h6
    rw [h6, Nat.pow_succ, Nat.mod_mul, Nat.add_mul]
    congr 1
    rw [Nat.mul_comm (18446744073709551616 ^ i), Nat.mul_assoc, Nat.mul_assoc, Nat.mul_comm y]
theorem RowI.all {x y : Nat} {L : List Nat} (h : RowI x y 3 L) (hx : x < 18446744073709551616 ^ 3) : L = wd (x * y) 6 := by
  obtain ⟨h1, h2, _, h4⟩ := h
  have := wd_num L 6 h1 h2
  rw [h4, Nat.mod_eq_of_lt hx] at this
  exact this
end Go.Proofs.Ytooaaacingaapaa.OneN
