/-
  Numbers as words of 64 bits: their sums, differences, products; bytes put into words and taken out; what is left of a number behind 2^255 - 19, by words: plain mathematics. Conditions: in each statement.
-/
import Derived.Test.YtfngomlknhappaaDoorKn
namespace Go.Proofs.YtfngomlknhappaaDoor.FieldN
open NumA NumF FieldM

/-- A number's words, the least first. -/
def wd (v n : Nat) : List Nat := (List.range n).map fun k => v / 18446744073709551616 ^ k % 18446744073709551616
theorem wd_len (v n : Nat) : (wd v n).length = n := by simp [wd]
theorem wd_at (v n k : Nat) (h : k < n) : (wd v n).getD k 0 = v / 18446744073709551616 ^ k % 18446744073709551616 := by
  rw [List.getD_eq_getElem?_getD]
  unfold wd
  rw [List.getElem?_map, List.getElem?_range h]
  rfl
theorem wd_lt (v n k : Nat) : (wd v n).getD k 0 < 18446744073709551616 := by
  by_cases h : k < n
  · rw [wd_at v n k h]; exact Nat.mod_lt _ (by decide)
  · rw [List.getD_eq_getElem?_getD, List.getElem?_eq_none (by rw [wd_len]; omega)]; decide
theorem wd_ext (L : List Nat) (v n : Nat) (hl : L.length = n) (h : ∀ k, k < n → L.getD k 0 = v / 18446744073709551616 ^ k % 18446744073709551616) : L = wd v n := by
  apply List.ext_getElem?
  intro k
  by_cases hk : k < n
  · have h1 := h k hk
    rw [← wd_at v n k hk, List.getD_eq_getElem?_getD, List.getD_eq_getElem?_getD, List.getElem?_eq_getElem (by omega), List.getElem?_eq_getElem (by rw [wd_len]; exact hk)] at h1
    rw [List.getElem?_eq_getElem (by omega), List.getElem?_eq_getElem (by rw [wd_len]; exact hk)]
    exact congrArg some h1
  · rw [List.getElem?_eq_none (by omega), List.getElem?_eq_none (by rw [wd_len]; omega)]
theorem wd_zero (n : Nat) : wd 0 n = List.replicate n 0 := by
  refine (wd_ext _ 0 n (by simp) fun k hk => ?_).symm
  rw [List.getD_eq_getElem?_getD, List.getElem?_replicate, if_pos hk, Nat.zero_div]
  rfl
theorem getD_set_same' (d : List Nat) (k x : Nat) (h : k < d.length) : (d.set k x).getD k 0 = x := by
  rw [List.getD_eq_getElem?_getD, List.getElem?_set_self h]; rfl
theorem getD_set_ne' (d : List Nat) (k m x : Nat) (h : m ≠ k) : (d.set k x).getD m 0 = d.getD m 0 := by
  rw [List.getD_eq_getElem?_getD, List.getElem?_set_ne (fun e => h e.symm), ← List.getD_eq_getElem?_getD]

/-- The number of words in base B. -/
def numB (B : Nat) : List Nat → Nat
  | [] => 0
  | x :: r => x + B * numB B r
theorem numB_set (B : Nat) (d : List Nat) : ∀ (k x : Nat), k < d.length → numB B (d.set k x) + d.getD k 0 * B ^ k = numB B d + x * B ^ k := by
  induction d with
  | nil => intro k x h; exact absurd h (by simp)
  | cons y r ih =>
    intro k x h
    cases k with
    | zero => rw [List.set_cons_zero, numB, numB, List.getD_cons_zero, Nat.pow_zero, Nat.mul_one, Nat.mul_one]; omega
    | succ k =>
      have h1 := ih k x (by simpa using h)
      rw [List.set_cons_succ, numB, numB, List.getD_cons_succ, Nat.pow_succ]
      have e1 : r.getD k 0 * (B ^ k * B) = B * (r.getD k 0 * B ^ k) := by rw [← Nat.mul_assoc, Nat.mul_comm]
      have e2 : x * (B ^ k * B) = B * (x * B ^ k) := by rw [← Nat.mul_assoc, Nat.mul_comm]
      have h2 := congrArg (B * ·) h1
      simp only [Nat.mul_add] at h2
      rw [e1, e2]
      omega
theorem numB_at (B : Nat) (hB : 0 < B) (d : List Nat) (hd : ∀ k, d.getD k 0 < B) : ∀ k, numB B d / B ^ k % B = d.getD k 0 := by
  induction d with
  | nil => intro k; simp [numB]
  | cons y r ih =>
    have hr : ∀ k, r.getD k 0 < B := fun k => by have := hd (k + 1); rwa [List.getD_cons_succ] at this
    have hy : y < B := by have := hd 0; rwa [List.getD_cons_zero] at this
    intro k
    cases k with
    | zero => rw [numB, Nat.pow_zero, Nat.div_one, List.getD_cons_zero, Nat.add_mul_mod_self_left, Nat.mod_eq_of_lt hy]
    | succ k =>
      rw [numB, List.getD_cons_succ, Nat.pow_succ, Nat.mul_comm (B ^ k) B, ← Nat.div_div_eq_div_mul, Nat.add_mul_div_left _ _ hB, Nat.div_eq_of_lt hy, Nat.zero_add]
      exact ih hr k
theorem wd_num (L : List Nat) (n : Nat) (hl : L.length = n) (h : ∀ k, L.getD k 0 < 18446744073709551616) : L = wd (numB 18446744073709551616 L) n :=
  wd_ext L _ n hl fun k _ => (numB_at _ (by decide) L h k).symm

/-! ### Sums -/
/-- The carry into word k. -/
def carB (B x y k : Nat) : Nat := (x % B ^ k + y % B ^ k) / B ^ k
theorem carB_zero (B x y : Nat) : carB B x y 0 = 0 := by simp [carB, Nat.mod_one]
theorem carB_le (B x y k : Nat) (hB : 0 < B) : carB B x y k ≤ 1 := by
  unfold carB
  have hp : 0 < B ^ k := Nat.pow_pos hB
  have h1 := Nat.mod_lt x hp
  have h2 := Nat.mod_lt y hp
  have : (x % B ^ k + y % B ^ k) / B ^ k < 2 := Nat.div_lt_of_lt_mul (by omega)
  omega
theorem carB_step (B X Y k : Nat) (hB : 0 < B) : (X / B ^ k % B + Y / B ^ k % B + carB B X Y k) % B = (X + Y) / B ^ k % B ∧ (X / B ^ k % B + Y / B ^ k % B + carB B X Y k) / B = carB B X Y (k + 1) := by
  unfold carB
  obtain ⟨P, hP⟩ : ∃ P, B ^ k = P := ⟨_, rfl⟩
  have hp : 0 < P := by rw [← hP]; exact Nat.pow_pos hB
  have hx : X % (P * B) = X % P + P * (X / P % B) := Nat.mod_mul
  have hy : Y % (P * B) = Y % P + P * (Y / P % B) := Nat.mod_mul
  rw [Nat.pow_succ, hP, hx, hy]
  have hdx := Nat.div_add_mod X P
  have hdy := Nat.div_add_mod Y P
  obtain ⟨x0, h1⟩ : ∃ z, X % P = z := ⟨_, rfl⟩
  obtain ⟨y0, h2⟩ : ∃ z, Y % P = z := ⟨_, rfl⟩
  obtain ⟨x1, h3⟩ : ∃ z, X / P = z := ⟨_, rfl⟩
  obtain ⟨y1, h4⟩ : ∃ z, Y / P = z := ⟨_, rfl⟩
  rw [h1, h3] at hdx
  rw [h2, h4] at hdy
  rw [h1, h2, h3, h4]
  constructor
  · have e : (X + Y) / P = (x0 + y0) / P + (x1 + y1) := by
      rw [← hdx, ← hdy, show P * x1 + x0 + (P * y1 + y0) = x0 + y0 + P * (x1 + y1) by rw [Nat.mul_add]; omega, Nat.add_mul_div_left _ _ hp]
    rw [e, Nat.add_comm ((x0 + y0) / P) (x1 + y1), Nat.add_mod (x1 % B + y1 % B), ← Nat.add_mod x1 y1 B, ← Nat.add_mod]
  · rw [show x0 + P * (x1 % B) + (y0 + P * (y1 % B)) = x0 + y0 + P * (x1 % B + y1 % B) by rw [Nat.mul_add]; omega, ← Nat.div_div_eq_div_mul, Nat.add_mul_div_left _ _ hp]
    congr 1
    omega
/-- The first k words, noughts behind them. -/
def fst (v n k : Nat) : List Nat := (wd v n).take k ++ List.replicate (n - k) 0
theorem fst_zero (v n : Nat) : fst v n 0 = wd 0 n := by rw [wd_zero]; simp [fst]
theorem fst_len (v n k : Nat) (h : k ≤ n) : (fst v n k).length = n := by simp [fst, wd_len]; omega
theorem fst_all (v n : Nat) : fst v n n = wd v n := by
  unfold fst
  rw [List.take_of_length_le (by rw [wd_len]; exact Nat.le_refl _), Nat.sub_self]
  simp
theorem fst_set (v n k : Nat) (h : k < n) : (fst v n k).set k (v / 18446744073709551616 ^ k % 18446744073709551616) = fst v n (k + 1) := by
  have h1 : ((wd v n).take k).length = k := by rw [List.length_take, wd_len]; omega
  have h2 := wd_at v n k h
  rw [List.getD_eq_getElem?_getD, List.getElem?_eq_getElem (by rw [wd_len]; exact h), Option.getD_some] at h2
  unfold fst
  rw [List.set_append, if_neg (by omega), h1, Nat.sub_self, show n - k = (n - (k + 1)) + 1 by omega, List.replicate_succ, List.set_cons_zero, List.take_succ_eq_append_getElem (by rw [wd_len]; exact h), h2, List.append_assoc]
  rfl

/-! ### Products -/
/-- Behind i rows. -/
def RowI (x y i : Nat) (L : List Nat) : Prop := L.length = 8 ∧ (∀ k, L.getD k 0 < 18446744073709551616) ∧ (∀ k, i + 4 ≤ k → L.getD k 0 = 0) ∧ numB 18446744073709551616 L = x % 18446744073709551616 ^ i * y
/-- .. and j products of row i. -/
def MulI (x y i j : Nat) (L : List Nat) (c : Nat) : Prop :=
  L.length = 8 ∧ (∀ k, L.getD k 0 < 18446744073709551616) ∧ (∀ k, i + 4 ≤ k → L.getD k 0 = 0) ∧ c < 18446744073709551616 ∧
  numB 18446744073709551616 L + c * 18446744073709551616 ^ (i + j) = x % 18446744073709551616 ^ i * y + x / 18446744073709551616 ^ i % 18446744073709551616 * (y % 18446744073709551616 ^ j) * 18446744073709551616 ^ i
theorem RowI.start (x y : Nat) : RowI x y 0 (wd 0 8) := by
  rw [wd_zero]
  refine ⟨by simp, fun k => ?_, fun k _ => ?_, ?_⟩
  · rw [List.getD_eq_getElem?_getD, List.getElem?_replicate]; split <;> decide
  · rw [List.getD_eq_getElem?_getD, List.getElem?_replicate]; split <;> rfl
  · rw [Nat.pow_zero, Nat.mod_one, Nat.zero_mul]; rfl
theorem RowI.mul {x y i : Nat} {L : List Nat} (h : RowI x y i L) : MulI x y i 0 L 0 := by
  obtain ⟨h1, h2, h3, h4⟩ := h
  exact ⟨h1, h2, h3, by decide, by rw [h4, Nat.pow_zero, Nat.mod_one, Nat.mul_zero, Nat.zero_mul, Nat.zero_mul]⟩
theorem two_words (a b c d B : Nat) (ha : a < B) (hb : b < B) (hc : c < B) (hd : d < B) : (a * b + c + d) / B < B := by
  refine Nat.div_lt_of_lt_mul ?_
  have h1 : a * b ≤ (B - 1) * (B - 1) := Nat.mul_le_mul (by omega) (by omega)
  obtain ⟨z, rfl⟩ : ∃ z, B = z + 1 := ⟨B - 1, by omega⟩
  rw [Nat.add_sub_cancel] at h1
  rw [Nat.mul_add, Nat.add_mul]
  omega
theorem mul_num (B n l t a b c z i j y X : Nat) (h : n + c * B ^ (i + j) = X + a * (y % B ^ j) * B ^ i) (hb : b = y / B ^ j % B) (ht : t = a * b + l + c) (hz : z + l * B ^ (i + j) = n + t % B * B ^ (i + j)) :
    z + t / B * B ^ (i + (j + 1)) = X + a * (y % B ^ (j + 1)) * B ^ i := by
  have e1 : B ^ (i + (j + 1)) = B * B ^ (i + j) := by rw [← Nat.add_assoc, Nat.pow_succ, Nat.mul_comm]
  have e2 : y % B ^ (j + 1) = y % B ^ j + B ^ j * b := by rw [Nat.pow_succ, Nat.mod_mul, ← hb]
  have e3 : B ^ (i + j) = B ^ j * B ^ i := by rw [Nat.add_comm, Nat.pow_add]
  rw [e1, e2, Nat.mul_add, Nat.add_mul, ← Nat.mul_assoc (t / B)]
  have e4 : t = B * (t / B) + t % B := (Nat.div_add_mod t B).symm
  have e5 : a * (B ^ j * b) * B ^ i = a * b * B ^ (i + j) := by rw [e3, Nat.mul_comm (B ^ j) b, ← Nat.mul_assoc a b, Nat.mul_assoc (a * b)]
  rw [e5]
  obtain ⟨P, hP⟩ : ∃ P, B ^ (i + j) = P := ⟨_, rfl⟩
  rw [hP] at h hz ⊢
  have e6 : t * P = a * b * P + l * P + c * P := by rw [ht, Nat.add_mul, Nat.add_mul]
  have e7 : t * P = t / B * B * P + t % B * P := by
    have := congrArg (· * P) e4
    simp only [Nat.add_mul] at this
    rw [Nat.mul_comm B (t / B)] at this
    exact this
  omega
theorem MulI.step {x y i j : Nat} {L : List Nat} {c : Nat} (h : MulI x y i j L c) (hi : i < 4) (hj : j < 4) (a b t : Nat) (ha : a = x / 18446744073709551616 ^ i % 18446744073709551616) (hb : b = y / 18446744073709551616 ^ j % 18446744073709551616) (ht : t = a * b + L.getD (i + j) 0 + c) :
    MulI x y i (j + 1) (L.set (i + j) (t % 18446744073709551616)) (t / 18446744073709551616) := by
  obtain ⟨h1, h2, h3, h4, h5⟩ := h
  have hB : (0 : Nat) < 18446744073709551616 := by decide
  refine ⟨by rw [List.length_set]; exact h1, fun k => ?_, fun k hk => ?_, ?_, ?_⟩
  · by_cases e : k = i + j
    · subst e; rw [getD_set_same' _ _ _ (by omega)]; exact Nat.mod_lt _ hB
    · rw [getD_set_ne' _ _ _ _ e]; exact h2 k
  · rw [getD_set_ne' _ _ _ _ (by omega)]; exact h3 k hk
  · rw [ht]
    exact two_words a b _ c _ (by rw [ha]; exact Nat.mod_lt _ hB) (by rw [hb]; exact Nat.mod_lt _ hB) (h2 _) h4
  · have h6 := numB_set 18446744073709551616 L (i + j) (t % 18446744073709551616) (by omega)
    rw [← ha] at h5 ⊢
    exact mul_num _ _ _ t a b c _ i j y _ h5 hb ht h6
theorem MulI.row {x y i : Nat} {L : List Nat} {c : Nat} (h : MulI x y i 4 L c) (hi : i < 4) (hy : y < 18446744073709551616 ^ 4) : RowI x y (i + 1) (L.set (i + 4) c) := by
  obtain ⟨h1, h2, h3, h4, h5⟩ := h
  refine ⟨by rw [List.length_set]; exact h1, fun k => ?_, fun k hk => ?_, ?_⟩
  · by_cases e : k = i + 4
    · subst e; rw [getD_set_same' _ _ _ (by omega)]; exact h4
    · rw [getD_set_ne' _ _ _ _ e]; exact h2 k
  · rw [getD_set_ne' _ _ _ _ (by omega)]; exact h3 k (by omega)
  · have h6 := numB_set 18446744073709551616 L (i + 4) c (by omega)
    rw [h3 (i + 4) (Nat.le_refl _), Nat.zero_mul, Nat.add_zero, h5, Nat.mod_eq_of_lt hy] at h6
    rw [h6, Nat.pow_succ, Nat.mod_mul, Nat.add_mul]
    congr 1
    rw [Nat.mul_comm (18446744073709551616 ^ i), Nat.mul_assoc, Nat.mul_assoc, Nat.mul_comm y]
theorem RowI.all {x y : Nat} {L : List Nat} (h : RowI x y 4 L) (hx : x < 18446744073709551616 ^ 4) : L = wd (x * y) 8 := by
  obtain ⟨h1, h2, _, h4⟩ := h
  have := wd_num L 8 h1 h2
  rw [h4, Nat.mod_eq_of_lt hx] at this
  exact this

/-! ### Bytes in words -/
theorem pow8 (m : Nat) : (2 : Nat) ^ (8 * m) = 256 ^ m := by rw [Nat.pow_mul]
theorem powB (k : Nat) : (18446744073709551616 : Nat) ^ (k / 8) * 256 ^ (k % 8) = 256 ^ k := by
  rw [show (18446744073709551616 : Nat) = 256 ^ 8 by decide, ← Nat.pow_mul, ← Nat.pow_add]
  congr 1
  omega
theorem pow_le8 (r : Nat) (h : r ≤ 8) : 256 ^ r ≤ 18446744073709551616 := by
  rw [show (18446744073709551616 : Nat) = 256 ^ 8 by decide]
  exact Nat.pow_le_pow_right (by decide) h

/-- Word k / 8 of what k bytes hold. -/
theorem top_word (v k : Nat) (hv : v < 256 ^ k) : v / 18446744073709551616 ^ (k / 8) % 18446744073709551616 = v / 18446744073709551616 ^ (k / 8) ∧ v / 18446744073709551616 ^ (k / 8) < 256 ^ (k % 8) := by
  have h1 : v / 18446744073709551616 ^ (k / 8) < 256 ^ (k % 8) := by
    rw [Nat.div_lt_iff_lt_mul (Nat.pow_pos (by decide)), Nat.mul_comm, powB]
    exact hv
  exact ⟨Nat.mod_eq_of_lt (Nat.lt_of_lt_of_le h1 (pow_le8 _ (by omega))), h1⟩
/-- A byte is put above k bytes. -/
theorem put_byte (v k c n : Nat) (hv : v < 256 ^ k) (hc : c < 256) (hk : k / 8 < n) :
    (wd v n).set (k / 8) ((wd v n).getD (k / 8) 0 ||| c * 2 ^ (8 * (k % 8))) = wd (v + 256 ^ k * c) n ∧ (wd v n).getD (k / 8) 0 < 2 ^ (8 * (k % 8)) ∧ c * 2 ^ (8 * (k % 8)) < 18446744073709551616 := by
  have ht := top_word v k hv
  have hg : (wd v n).getD (k / 8) 0 = v / 18446744073709551616 ^ (k / 8) := by rw [wd_at v n _ hk, ht.1]
  have hcl : c * 2 ^ (8 * (k % 8)) < 18446744073709551616 := by
    rw [pow8]
    have h1 : c * 256 ^ (k % 8) < 256 * 256 ^ (k % 8) := Nat.mul_lt_mul_of_pos_right hc (Nat.pow_pos (by decide))
    have h2 := pow_le8 (k % 8 + 1) (by omega)
    rw [Nat.pow_succ, Nat.mul_comm] at h2
    omega
  have hor : (wd v n).getD (k / 8) 0 ||| c * 2 ^ (8 * (k % 8)) = v / 18446744073709551616 ^ (k / 8) + c * 256 ^ (k % 8) := by
    rw [hg, Nat.or_comm, Nat.mul_comm c, ← Nat.two_pow_add_eq_or_of_lt (by rw [pow8]; exact ht.2), pow8, Nat.mul_comm]
    omega
  refine ⟨?_, by rw [hg, pow8]; exact ht.2, hcl⟩
  rw [hor]
  refine wd_ext _ _ n (by rw [List.length_set, wd_len]) fun m hm => ?_
  have hp := powB k
  by_cases e : m = k / 8
  · subst e
    rw [getD_set_same' _ _ _ (by rw [wd_len]; exact hk)]
    have h1 : (v + 256 ^ k * c) / 18446744073709551616 ^ (k / 8) = v / 18446744073709551616 ^ (k / 8) + c * 256 ^ (k % 8) := by
      rw [← hp, Nat.mul_assoc, Nat.add_mul_div_left _ _ (Nat.pow_pos (by decide)), Nat.mul_comm c]
    rw [h1]
    refine (Nat.mod_eq_of_lt ?_).symm
    have h2 := pow_le8 (k % 8 + 1) (by omega)
    have h3 : c * 256 ^ (k % 8) ≤ 255 * 256 ^ (k % 8) := Nat.mul_le_mul_right _ (by omega)
    rw [Nat.pow_succ] at h2
    omega
  · rw [getD_set_ne' _ _ _ _ e, wd_at v n m hm]
    rcases Nat.lt_or_ge m (k / 8) with hlt | hge
    · have h1 : 256 ^ k * c = 18446744073709551616 ^ m * (18446744073709551616 * (18446744073709551616 ^ (k / 8 - m - 1) * 256 ^ (k % 8) * c)) := by
        rw [← hp, ← Nat.mul_assoc, ← Nat.mul_assoc, ← Nat.mul_assoc, ← Nat.pow_succ, ← Nat.pow_add, show m.succ + (k / 8 - m - 1) = k / 8 by omega]
      rw [h1, Nat.add_mul_div_left _ _ (Nat.pow_pos (by decide)), Nat.add_mul_mod_self_left]
    · have h1 : v + 256 ^ k * c < 256 ^ (k + 1) := by
        have : 256 ^ k * c ≤ 256 ^ k * 255 := Nat.mul_le_mul_left _ (by omega)
        rw [Nat.pow_succ]
        omega
      have h2 : 256 ^ (k + 1) ≤ 18446744073709551616 ^ m := by
        rw [show (18446744073709551616 : Nat) = 256 ^ 8 by decide, ← Nat.pow_mul]
        exact Nat.pow_le_pow_right (by decide) (by omega)
      rw [Nat.div_eq_of_lt (by omega), Nat.div_eq_of_lt (by omega)]
/-- Byte k of a number in words. -/
theorem get_byte (v n k : Nat) (hk : k / 8 < n) : (wd v n).getD (k / 8) 0 / 2 ^ (8 * (k % 8)) % 256 = v / 256 ^ k % 256 := by
  rw [wd_at v n _ hk, pow8, ← powB k, ← Nat.div_div_eq_div_mul]
  obtain ⟨x, hx⟩ : ∃ x, v / 18446744073709551616 ^ (k / 8) = x := ⟨_, rfl⟩
  rw [hx]
  have e : (18446744073709551616 : Nat) = 256 ^ (k % 8) * (256 * 256 ^ (7 - k % 8)) := by
    rw [show (18446744073709551616 : Nat) = 256 ^ 8 by decide, ← Nat.mul_assoc, ← Nat.pow_succ, ← Nat.pow_add]
    congr 1
    omega
  rw [e, Nat.mod_mul_right_div_self, Nat.mod_mul_right_mod]

theorem leN_append (p q : List UInt8) : leN (p ++ q) = leN p + 256 ^ p.length * leN q := by
  induction p with
  | nil => simp [leN]
  | cons x r ih =>
    rw [List.cons_append, leN, leN, ih, List.length_cons, Nat.pow_succ, Nat.mul_add, Nat.mul_comm (256 ^ r.length) 256, Nat.mul_assoc]
    omega
theorem leN_snoc (b : List UInt8) (k : Nat) (h : k < b.length) : leN (b.take (k + 1)) = leN (b.take k) + 256 ^ k * b[k].toNat := by
  rw [List.take_succ_eq_append_getElem h, leN_append, List.length_take, Nat.min_eq_left (by omega), leN, leN, Nat.mul_zero, Nat.add_zero]
theorem leN_take_lt (b : List UInt8) (k : Nat) : leN (b.take k) < 256 ^ k := by
  refine Nat.lt_of_lt_of_le (leN_lt _) (Nat.pow_le_pow_right (by decide) ?_)
  rw [List.length_take]; omega
/-- A number's first k bytes, noughts behind them. -/
def outN (v k : Nat) : List UInt8 := (ln v).take k ++ List.replicate (32 - k) 0
theorem outN_zero (v : Nat) : outN v 0 = List.replicate 32 0 := by simp [outN]
theorem outN_len (v k : Nat) (h : k ≤ 32) : (outN v k).length = 32 := by simp [outN, ln_len]; omega
theorem outN_all (v : Nat) : outN v 32 = ln v := by
  unfold outN
  rw [List.take_of_length_le (by rw [ln_len]; exact Nat.le_refl _)]
  simp
theorem outN_set (v k : Nat) (h : k < 32) : (outN v k).set k (UInt8.ofNat (v / 256 ^ k)) = outN v (k + 1) := by
  have h1 : ((ln v).take k).length = k := by rw [List.length_take, ln_len]; omega
  have h2 : (ln v)[k]'(by rw [ln_len]; exact h) = UInt8.ofNat (v / 256 ^ k) := by simp [ln]
  unfold outN
  rw [List.set_append, if_neg (by omega), h1, Nat.sub_self, show 32 - k = (32 - (k + 1)) + 1 by omega, List.replicate_succ, List.set_cons_zero, List.take_succ_eq_append_getElem (by rw [ln_len]; exact h), h2, List.append_assoc]
  rfl

/-! ### Differences -/
/-- What word k has to lend. -/
def borB (B x y k : Nat) : Nat := if x % B ^ k < y % B ^ k then 1 else 0
theorem borB_zero (B x y : Nat) : borB B x y 0 = 0 := by simp [borB, Nat.mod_one]
theorem borB_le (B x y k : Nat) : borB B x y k ≤ 1 := by unfold borB; split <;> omega
theorem pair_lt (B x0 y0 d e : Nat) (hx : x0 < B) (hy : y0 < B) : x0 + B * d < y0 + B * e ↔ d < e + (if x0 < y0 then 1 else 0) := by
  rcases Nat.lt_trichotomy d e with h | h | h
  · have h1 : B * (d + 1) ≤ B * e := Nat.mul_le_mul_left _ h
    rw [Nat.mul_add] at h1
    constructor
    · intro _; omega
    · intro _; omega
  · subst h
    split <;> omega
  · have h1 : B * (e + 1) ≤ B * d := Nat.mul_le_mul_left _ h
    rw [Nat.mul_add] at h1
    constructor
    · intro _; omega
    · intro h2; split at h2 <;> omega
theorem borB_step (X Y k n : Nat) (hk : k < n) (hY : Y < 18446744073709551616 ^ n) :
    (X / 18446744073709551616 ^ k % 18446744073709551616 + 18446744073709551616 - Y / 18446744073709551616 ^ k % 18446744073709551616 - borB 18446744073709551616 X Y k) % 18446744073709551616 = (X + 18446744073709551616 ^ n - Y) / 18446744073709551616 ^ k % 18446744073709551616 ∧
    (if X / 18446744073709551616 ^ k % 18446744073709551616 < Y / 18446744073709551616 ^ k % 18446744073709551616 + borB 18446744073709551616 X Y k then 1 else 0) = borB 18446744073709551616 X Y (k + 1) := by
  have hn : (18446744073709551616 : Nat) ^ n = 18446744073709551616 ^ k * (18446744073709551616 * 18446744073709551616 ^ (n - k - 1)) := by
    rw [Nat.mul_comm 18446744073709551616 (18446744073709551616 ^ (n - k - 1)), ← Nat.pow_succ, ← Nat.pow_add]
    congr 1
    omega
  rw [hn] at hY ⊢
  unfold borB
  obtain ⟨Q, hQ⟩ : ∃ Q, (18446744073709551616 : Nat) ^ (n - k - 1) = Q := ⟨_, rfl⟩
  obtain ⟨P, hP⟩ : ∃ P, (18446744073709551616 : Nat) ^ k = P := ⟨_, rfl⟩
  have hp : 0 < P := by rw [← hP]; exact Nat.pow_pos (by decide)
  rw [hQ, hP] at hY ⊢
  rw [Nat.pow_succ, hP, Nat.mod_mul, Nat.mod_mul]
  have hdx := Nat.div_add_mod X P
  have hdy := Nat.div_add_mod Y P
  have mx := Nat.mod_lt X hp
  have my := Nat.mod_lt Y hp
  obtain ⟨x0, h1⟩ : ∃ z, X % P = z := ⟨_, rfl⟩
  obtain ⟨y0, h2⟩ : ∃ z, Y % P = z := ⟨_, rfl⟩
  obtain ⟨x1, h3⟩ : ∃ z, X / P = z := ⟨_, rfl⟩
  obtain ⟨y1, h4⟩ : ∃ z, Y / P = z := ⟨_, rfl⟩
  rw [h1, h3] at hdx
  rw [h2, h4] at hdy
  rw [h1] at mx
  rw [h2] at my
  rw [h1, h2, h3, h4]
  have hy1 : y1 < 18446744073709551616 * Q := by
    refine Nat.lt_of_mul_lt_mul_left (a := P) ?_
    omega
  refine ⟨?_, (ite_congr (propext (pair_lt P x0 y0 _ _ mx my)) (fun _ => rfl) (fun _ => rfl)).symm⟩
  have e : (X + P * (18446744073709551616 * Q) - Y) / P = x1 + 18446744073709551616 * Q - y1 - (if x0 < y0 then 1 else 0) := by
    have e1 : P * (x1 + 18446744073709551616 * Q - y1) + P * y1 = P * x1 + P * (18446744073709551616 * Q) := by
      rw [← Nat.mul_add, ← Nat.mul_add]; congr 1; omega
    split
    · have e2 : P * (x1 + 18446744073709551616 * Q - y1 - 1) + P = P * (x1 + 18446744073709551616 * Q - y1) := by
        rw [← Nat.mul_succ]; congr 1; omega
      rw [show X + P * (18446744073709551616 * Q) - Y = (x0 + P - y0) + P * (x1 + 18446744073709551616 * Q - y1 - 1) by omega, Nat.add_mul_div_left _ _ hp, Nat.div_eq_of_lt (by omega), Nat.zero_add]
    · rw [show X + P * (18446744073709551616 * Q) - Y = (x0 - y0) + P * (x1 + 18446744073709551616 * Q - y1) by omega, Nat.add_mul_div_left _ _ hp, Nat.div_eq_of_lt (by omega), Nat.zero_add]
      omega
  rw [e]
  split <;> omega
theorem borB_all (X Y n : Nat) (hX : X < 18446744073709551616 ^ n) (hY : Y < 18446744073709551616 ^ n) : borB 18446744073709551616 X Y n = if X < Y then 1 else 0 := by
  unfold borB
  rw [Nat.mod_eq_of_lt hX, Nat.mod_eq_of_lt hY]
theorem wd_mod (v n : Nat) : wd (v % 18446744073709551616 ^ n) n = wd v n := by
  refine wd_ext _ _ n (wd_len _ _) fun k hk => ?_
  rw [wd_at _ _ _ hk]
  have e : (18446744073709551616 : Nat) ^ n = 18446744073709551616 ^ k * (18446744073709551616 * 18446744073709551616 ^ (n - k - 1)) := by
    rw [Nat.mul_comm 18446744073709551616 (18446744073709551616 ^ (n - k - 1)), ← Nat.pow_succ, ← Nat.pow_add]
    congr 1
    omega
  rw [e, Nat.mod_mul_right_div_self, Nat.mod_mul_right_mod]
theorem wd_diff (X Y n : Nat) (h : Y ≤ X) : wd (X + 18446744073709551616 ^ n - Y) n = wd (X - Y) n := by
  rw [Nat.sub_add_comm h, ← wd_mod, Nat.add_mod_right, wd_mod]
theorem wd_inj {x y n : Nat} (hx : x < 18446744073709551616 ^ n) (hy : y < 18446744073709551616 ^ n) (h : wd x n = wd y n) : x = y := by
  have key : ∀ (m : Nat) (x y : Nat), x < 18446744073709551616 ^ m → y < 18446744073709551616 ^ m → (∀ k, k < m → x / 18446744073709551616 ^ k % 18446744073709551616 = y / 18446744073709551616 ^ k % 18446744073709551616) → x = y := by
    intro m
    induction m with
    | zero => intro x y hx hy _; rw [Nat.pow_zero] at hx hy; omega
    | succ m ih =>
      intro x y hx hy h
      have h0 := h 0 (by omega)
      rw [Nat.pow_zero, Nat.div_one, Nat.div_one] at h0
      have h1 := ih (x / 18446744073709551616) (y / 18446744073709551616) (by rw [Nat.div_lt_iff_lt_mul (by decide), ← Nat.pow_succ]; exact hx) (by rw [Nat.div_lt_iff_lt_mul (by decide), ← Nat.pow_succ]; exact hy) (fun k hk => by
        have := h (k + 1) (by omega)
        rw [Nat.pow_succ, Nat.mul_comm, ← Nat.div_div_eq_div_mul, ← Nat.div_div_eq_div_mul] at this
        exact this)
      omega
  exact key n x y hx hy fun k hk => by rw [← wd_at x n k hk, h, wd_at y n k hk]

/-! ### What is left behind the prime -/
/-- The carry into word k of l + c * h. -/
def carC (c l h k : Nat) : Nat := (l % 18446744073709551616 ^ k + c * (h % 18446744073709551616 ^ k)) / 18446744073709551616 ^ k
theorem carC_zero (c l h : Nat) : carC c l h 0 = 0 := by simp [carC, Nat.mod_one]
theorem carC_step (c l h k : Nat) :
    (h / 18446744073709551616 ^ k % 18446744073709551616 * c + l / 18446744073709551616 ^ k % 18446744073709551616 + carC c l h k) % 18446744073709551616 = (l + c * h) / 18446744073709551616 ^ k % 18446744073709551616 ∧
    (h / 18446744073709551616 ^ k % 18446744073709551616 * c + l / 18446744073709551616 ^ k % 18446744073709551616 + carC c l h k) / 18446744073709551616 = carC c l h (k + 1) := by
  unfold carC
  obtain ⟨P, hP⟩ : ∃ P, (18446744073709551616 : Nat) ^ k = P := ⟨_, rfl⟩
  have hp : 0 < P := by rw [← hP]; exact Nat.pow_pos (by decide)
  rw [Nat.pow_succ, hP, Nat.mod_mul, Nat.mod_mul]
  have hdx := Nat.div_add_mod l P
  have hdy := Nat.div_add_mod h P
  obtain ⟨x0, h1⟩ : ∃ z, l % P = z := ⟨_, rfl⟩
  obtain ⟨y0, h2⟩ : ∃ z, h % P = z := ⟨_, rfl⟩
  obtain ⟨x1, h3⟩ : ∃ z, l / P = z := ⟨_, rfl⟩
  obtain ⟨y1, h4⟩ : ∃ z, h / P = z := ⟨_, rfl⟩
  rw [h1, h3] at hdx
  rw [h2, h4] at hdy
  rw [h1, h2, h3, h4]
  constructor
  · have e : (l + c * h) / P = (x0 + c * y0) / P + (x1 + c * y1) := by
      rw [← hdx, ← hdy, show P * x1 + x0 + c * (P * y1 + y0) = x0 + c * y0 + P * (x1 + c * y1) by rw [Nat.mul_add, Nat.mul_add, Nat.mul_left_comm]; omega, Nat.add_mul_div_left _ _ hp]
    rw [e, Nat.add_assoc, Nat.add_mod, Nat.mod_mul_mod, Nat.mul_comm y1 c, ← Nat.add_mod, Nat.add_comm ((x0 + c * y0) / P), ← Nat.add_assoc, Nat.add_mod, Nat.add_mod (c * y1) (x1 % _), Nat.mod_mod, ← Nat.add_mod (c * y1) x1, ← Nat.add_mod, Nat.add_comm (c * y1)]
  · rw [show x0 + P * (x1 % 18446744073709551616) + c * (y0 + P * (y1 % 18446744073709551616)) = x0 + c * y0 + P * (x1 % 18446744073709551616 + c * (y1 % 18446744073709551616)) by rw [Nat.mul_add, Nat.mul_add, Nat.mul_left_comm]; omega, ← Nat.div_div_eq_div_mul, Nat.add_mul_div_left _ _ hp, Nat.mul_comm (y1 % _) c]
    congr 1
    omega
/-- The first k words of s, words of v behind them. -/
def mid (s v n k : Nat) : List Nat := (List.range n).map fun j => if j < k then s / 18446744073709551616 ^ j % 18446744073709551616 else v / 18446744073709551616 ^ j % 18446744073709551616
theorem mid_zero (s v n : Nat) : mid s v n 0 = wd v n := by simp [mid, wd]
theorem mid_all (s v n : Nat) : mid s v n n = wd s n := by
  unfold mid wd
  apply List.map_congr_left
  intro j hj
  rw [if_pos (List.mem_range.1 hj)]
theorem mid_len (s v n k : Nat) : (mid s v n k).length = n := by simp [mid]
theorem mid_at (s v n k : Nat) (h : k < n) : (mid s v n k).getD k 0 = v / 18446744073709551616 ^ k % 18446744073709551616 := by
  rw [List.getD_eq_getElem?_getD]
  unfold mid
  rw [List.getElem?_map, List.getElem?_range h]
  simp
theorem mid_set (s v n k : Nat) (h : k < n) : (mid s v n k).set k (s / 18446744073709551616 ^ k % 18446744073709551616) = mid s v n (k + 1) := by
  apply List.ext_getElem?
  intro j
  by_cases hj : j < n
  · by_cases e : j = k
    · subst e
      rw [List.getElem?_set_self (by rw [mid_len]; exact h)]
      unfold mid
      rw [List.getElem?_map, List.getElem?_range hj, Option.map_some, if_pos (by omega)]
    · rw [List.getElem?_set_ne (fun x => e x.symm)]
      unfold mid
      rw [List.getElem?_map, List.getElem?_map, List.getElem?_range hj, Option.map_some, Option.map_some]
      congr 1
      by_cases hl : j < k
      · rw [if_pos hl, if_pos (by omega)]
      · rw [if_neg hl, if_neg (by omega)]
  · rw [List.getElem?_eq_none (by rw [List.length_set, mid_len]; omega), List.getElem?_eq_none (by rw [mid_len]; omega)]
theorem B4 : (18446744073709551616 : Nat) ^ 4 = 115792089237316195423570985008687907853269984665640564039457584007913129639936 := by decide
theorem P_dec : P = 57896044618658097711785492504343953926634992332820282019728792003956564819949 := by decide +kernel
/-- Upper words of a number. -/
theorem wd_high (v n k : Nat) (h : n + k < 8) : (wd v 8).getD (n + k) 0 = v / 18446744073709551616 ^ n / 18446744073709551616 ^ k % 18446744073709551616 := by
  rw [wd_at v 8 _ h, Nat.pow_add, Nat.div_div_eq_div_mul]
/-- Word 3 without its first bit. -/
theorem wd_mask (v : Nat) : (wd v 4).set 3 ((wd v 4).getD 3 0 % 9223372036854775808) = wd (v % 57896044618658097711785492504343953926634992332820282019728792003956564819968) 4 := by
  refine wd_ext _ _ 4 (by rw [List.length_set, wd_len]) fun k hk => ?_
  by_cases e : k = 3
  · subst e
    rw [getD_set_same' _ _ _ (by rw [wd_len]; decide), wd_at v 4 3 (by decide), show (18446744073709551616 : Nat) ^ 3 = 6277101735386680763835789423207666416102355444464034512896 by decide]
    omega
  · rw [getD_set_ne' _ _ _ _ e, wd_at v 4 k hk]
    match k, hk, e with
    | 0, _, _ => rw [Nat.pow_zero]; omega
    | 1, _, _ => rw [Nat.pow_one]; omega
    | 2, _, _ => rw [show (18446744073709551616 : Nat) ^ 2 = 340282366920938463463374607431768211456 by decide]; omega
    | 3, _, e => exact absurd rfl e
    | k + 4, hk, _ => omega
/-- Once or never. -/
theorem rem_once (X : Nat) (h : X < P + P) : (wd (X + 19) 4).getD 3 0 / 9223372036854775808 ≤ 1 ∧ (X + 19 * ((wd (X + 19) 4).getD 3 0 / 9223372036854775808)) % 57896044618658097711785492504343953926634992332820282019728792003956564819968 = X % P := by
  rw [P_dec] at h ⊢
  rw [wd_at _ 4 3 (by decide), show (18446744073709551616 : Nat) ^ 3 = 6277101735386680763835789423207666416102355444464034512896 by decide]
  rcases Nat.lt_or_ge X 57896044618658097711785492504343953926634992332820282019728792003956564819949 with h1 | h1
  · have e : (X + 19) / 6277101735386680763835789423207666416102355444464034512896 % 18446744073709551616 / 9223372036854775808 = 0 := by omega
    rw [e]
    omega
  · have e : (X + 19) / 6277101735386680763835789423207666416102355444464034512896 % 18446744073709551616 / 9223372036854775808 = 1 := by omega
    rw [e]
    omega
/-- A product's words: what the upper ones bring. -/
theorem red_all (V S a t : Nat) (hV : V < 13407807929942597099574024998205846127479365820592393377723561443721764030073546976801874298166903427690031858186486050853753882811946569946433649006084096) (hS : S = V % 115792089237316195423570985008687907853269984665640564039457584007913129639936 + 38 * (V / 115792089237316195423570985008687907853269984665640564039457584007913129639936))
    (ha : a = S / 115792089237316195423570985008687907853269984665640564039457584007913129639936) (ht : t = (wd S 4).getD 3 0 / 9223372036854775808) :
    a < 39 ∧ t ≤ 1 ∧ S % 57896044618658097711785492504343953926634992332820282019728792003956564819968 + 19 * (2 * a + t) < P + P ∧ (S % 57896044618658097711785492504343953926634992332820282019728792003956564819968 + 19 * (2 * a + t)) % P = V % P := by
  rw [wd_at _ 4 3 (by decide), show (18446744073709551616 : Nat) ^ 3 = 6277101735386680763835789423207666416102355444464034512896 by decide] at ht
  rw [P_dec]
  have hd : V / 115792089237316195423570985008687907853269984665640564039457584007913129639936 < 115792089237316195423570985008687907853269984665640564039457584007913129639936 := by
    rw [Nat.div_lt_iff_lt_mul (by decide)]
    exact Nat.lt_of_lt_of_eq hV (by decide)
  have hm := Nat.div_add_mod V 115792089237316195423570985008687907853269984665640564039457584007913129639936
  have hl := Nat.mod_lt V (y := 115792089237316195423570985008687907853269984665640564039457584007913129639936) (by decide)
  generalize V / 115792089237316195423570985008687907853269984665640564039457584007913129639936 = h at *
  generalize V % 115792089237316195423570985008687907853269984665640564039457584007913129639936 = l at *
  have u1 : S / 6277101735386680763835789423207666416102355444464034512896 / 9223372036854775808 = S / 57896044618658097711785492504343953926634992332820282019728792003956564819968 := Nat.div_div_eq_div_mul S _ _
  have u2 : S / 57896044618658097711785492504343953926634992332820282019728792003956564819968 / 2 = S / 115792089237316195423570985008687907853269984665640564039457584007913129639936 := Nat.div_div_eq_div_mul S _ _
  have hq : 2 * a + t = S / 57896044618658097711785492504343953926634992332820282019728792003956564819968 := by
    generalize S / 6277101735386680763835789423207666416102355444464034512896 = u at *
    generalize S / 57896044618658097711785492504343953926634992332820282019728792003956564819968 = q at *
    generalize S / 115792089237316195423570985008687907853269984665640564039457584007913129639936 = p at *
    clear hS hd hm hl hV
    omega
  clear u1 u2
  have hs := Nat.div_add_mod S 57896044618658097711785492504343953926634992332820282019728792003956564819968
  have hsl := Nat.mod_lt S (y := 57896044618658097711785492504343953926634992332820282019728792003956564819968) (by decide)
  rw [hq]
  refine ⟨by omega, by omega, by omega, ?_⟩
  clear ha ht hq
  generalize S / 57896044618658097711785492504343953926634992332820282019728792003956564819968 = q at *
  generalize S % 57896044618658097711785492504343953926634992332820282019728792003956564819968 = s at *
  have e1 : S = (s + 19 * q) + 57896044618658097711785492504343953926634992332820282019728792003956564819949 * q := by omega
  have e2 : V = S + 57896044618658097711785492504343953926634992332820282019728792003956564819949 * (2 * h) := by omega
  rw [e2, Nat.add_mul_mod_self_left, e1, Nat.add_mul_mod_self_left]
theorem carC_all (V : Nat) (hV : V < 13407807929942597099574024998205846127479365820592393377723561443721764030073546976801874298166903427690031858186486050853753882811946569946433649006084096) :
    carC 38 V (V / 18446744073709551616 ^ 4) 4 = (V % 115792089237316195423570985008687907853269984665640564039457584007913129639936 + 38 * (V / 115792089237316195423570985008687907853269984665640564039457584007913129639936)) / 115792089237316195423570985008687907853269984665640564039457584007913129639936 := by
  unfold carC
  rw [B4, Nat.mod_eq_of_lt (a := V / _)]
  rw [Nat.div_lt_iff_lt_mul (by decide)]
  exact Nat.lt_of_lt_of_eq hV (by decide)
end Go.Proofs.YtfngomlknhappaaDoor.FieldN
