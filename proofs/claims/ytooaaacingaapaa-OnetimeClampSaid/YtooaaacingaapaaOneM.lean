/-
  Poly1305 as plain mathematics; no program is named here. Conditions: in each statement.
-/
import Derived.Test.YtooaaacingaapaaKa
namespace Go.Proofs.Ytooaaacingaapaa.OneM

/-- Bytes as a number, the least first. -/
def lev : List UInt8 → Nat
  | [] => 0
  | x :: r => x.toNat + 256 * lev r
theorem lev_lt (l : List UInt8) : lev l < 256 ^ l.length := by
  induction l with
  | nil => simp [lev]
  | cons x r ih =>
    have := x.toNat_lt
    rw [lev, List.length_cons, Nat.pow_succ]
    omega
/-- Bit i of byte k. -/
theorem lev_bit (l : List UInt8) : ∀ (k i : Nat), (h : k < l.length) → i < 8 → lev l / 2 ^ (8 * k + i) % 2 = l[k].toNat / 2 ^ i % 2 := by
  induction l with
  | nil => intro k i h; exact absurd h (by simp)
  | cons x r ih =>
    intro k i h hi
    have hx := x.toNat_lt
    cases k with
    | zero =>
      rw [Nat.mul_zero, Nat.zero_add, lev, List.getElem_cons_zero]
      have e : 256 * lev r = 2 ^ i * (2 * (2 ^ (7 - i) * lev r)) := by
        rw [← Nat.mul_assoc, ← Nat.mul_assoc, Nat.mul_comm (2 ^ i) 2, Nat.mul_assoc 2, ← Nat.pow_add, show i + (7 - i) = 7 by omega]
      rw [e, Nat.add_mul_div_left _ _ (Nat.pow_pos (by decide)), Nat.add_mul_mod_self_left]
    | succ k =>
      rw [List.getElem_cons_succ, lev, show 8 * (k + 1) + i = 8 + (8 * k + i) by omega, Nat.pow_add, ← Nat.div_div_eq_div_mul, show (2 : Nat) ^ 8 = 256 by decide, Nat.add_mul_div_left _ _ (by decide), Nat.div_eq_of_lt hx, Nat.zero_add]
      exact ih k i (by simpa using h) hi

/-- Digits of 13 bits, of the first t bits of v. -/
def digs (v t : Nat) : List Nat := (List.range 11).map fun m => v % 2 ^ t / 2 ^ (13 * m) % 8192
theorem digs_len (v t : Nat) : (digs v t).length = 11 := by simp [digs]
theorem digs_at (v t m : Nat) (h : m < 11) : (digs v t).getD m 0 = v % 2 ^ t / 2 ^ (13 * m) % 8192 := by
  rw [List.getD_eq_getElem?_getD]
  unfold digs
  rw [List.getElem?_map, List.getElem?_range h]
  rfl
theorem digs_zero (v : Nat) : digs v 0 = List.replicate 11 0 := by
  apply List.ext_getElem?
  intro m
  by_cases h : m < 11
  · unfold digs
    rw [List.getElem?_map, List.getElem?_range h, List.getElem?_replicate, if_pos h, Option.map_some, Nat.pow_zero, Nat.mod_one, Nat.zero_div]
  · rw [List.getElem?_eq_none (by rw [digs_len]; omega), List.getElem?_eq_none (by simp; omega)]
theorem mod_succ (v t : Nat) : v % 2 ^ (t + 1) = v % 2 ^ t + v / 2 ^ t % 2 * 2 ^ t := by
  rw [Nat.pow_succ, Nat.mod_mul, Nat.mul_comm (2 ^ t)]
/-- One bit more: of the digit that has it. -/
theorem digit_own (v t : Nat) : v % 2 ^ (t + 1) / 2 ^ (13 * (t / 13)) % 8192 = v % 2 ^ t / 2 ^ (13 * (t / 13)) % 8192 + v / 2 ^ t % 2 * 2 ^ (t % 13) ∧ v % 2 ^ t / 2 ^ (13 * (t / 13)) % 8192 < 2 ^ (t % 13) := by
  have ht : 2 ^ t = 2 ^ (13 * (t / 13)) * 2 ^ (t % 13) := by rw [← Nat.pow_add, show 13 * (t / 13) + t % 13 = t by omega]
  have hu : v % 2 ^ t / 2 ^ (13 * (t / 13)) < 2 ^ (t % 13) := by
    rw [Nat.div_lt_iff_lt_mul (Nat.pow_pos (by decide)), Nat.mul_comm, ← ht]
    exact Nat.mod_lt _ (Nat.pow_pos (by decide))
  have h13 : 2 ^ (t % 13) * 2 ≤ 8192 := by
    rw [← Nat.pow_succ, show (8192 : Nat) = 2 ^ 13 by decide]
    exact Nat.pow_le_pow_right (by decide) (by omega)
  have hb : v / 2 ^ t % 2 < 2 := Nat.mod_lt _ (by decide)
  have hbm : v / 2 ^ t % 2 * 2 ^ (t % 13) ≤ 1 * 2 ^ (t % 13) := Nat.mul_le_mul_right _ (by omega)
  obtain ⟨b, hbe⟩ : ∃ b, v / 2 ^ t % 2 = b := ⟨_, rfl⟩
  rw [hbe] at hbm hb
  rw [mod_succ, hbe]
  have e : v % 2 ^ t + b * 2 ^ t = v % 2 ^ t + 2 ^ (13 * (t / 13)) * (b * 2 ^ (t % 13)) := by
    rw [← Nat.mul_assoc, Nat.mul_comm _ b, Nat.mul_assoc, ← ht]
  rw [e, Nat.add_mul_div_left _ _ (Nat.pow_pos (by decide))]
  rw [Nat.mod_eq_of_lt (show v % 2 ^ t / 2 ^ (13 * (t / 13)) < 8192 by omega), Nat.mod_eq_of_lt (show v % 2 ^ t / 2 ^ (13 * (t / 13)) + b * 2 ^ (t % 13) < 8192 by omega)]
  exact ⟨rfl, hu⟩
/-- .. and of the others. -/
theorem digit_other (v t m : Nat) (h : m ≠ t / 13) : v % 2 ^ (t + 1) / 2 ^ (13 * m) % 8192 = v % 2 ^ t / 2 ^ (13 * m) % 8192 := by
  rw [mod_succ]
  have hb : v / 2 ^ t % 2 < 2 := Nat.mod_lt _ (by decide)
  obtain ⟨b, hbe⟩ : ∃ b, v / 2 ^ t % 2 = b := ⟨_, rfl⟩
  rw [hbe] at hb ⊢
  rcases Nat.lt_or_ge m (t / 13) with hm | hm
  · have ht : 2 ^ t = 2 ^ (13 * m) * (8192 * 2 ^ (t - 13 * m - 13)) := by
      rw [show (8192 : Nat) = 2 ^ 13 by decide, ← Nat.pow_add, ← Nat.pow_add, show 13 * m + (13 + (t - 13 * m - 13)) = t by omega]
    have e : v % 2 ^ t + b * 2 ^ t = v % 2 ^ t + 2 ^ (13 * m) * (8192 * (b * 2 ^ (t - 13 * m - 13))) := by
      congr 1
      rw [ht, Nat.mul_left_comm b, Nat.mul_left_comm b]
    rw [e, Nat.add_mul_div_left _ _ (Nat.pow_pos (by decide)), Nat.add_mul_mod_self_left]
  · have hu : v % 2 ^ t < 2 ^ t := Nat.mod_lt _ (Nat.pow_pos (by decide))
    have hle : 2 ^ (t + 1) ≤ 2 ^ (13 * m) := Nat.pow_le_pow_right (by decide) (by omega)
    have hbm : b * 2 ^ t ≤ 1 * 2 ^ t := Nat.mul_le_mul_right _ (by omega)
    rw [Nat.pow_succ] at hle
    rw [Nat.div_eq_of_lt (show v % 2 ^ t + b * 2 ^ t < 2 ^ (13 * m) by omega), Nat.div_eq_of_lt (show v % 2 ^ t < 2 ^ (13 * m) by omega)]
theorem digs_bit (v t : Nat) (ht : t < 143) (hb : v / 2 ^ t % 2 = 1) : (digs v t).set (t / 13) ((digs v t).getD (t / 13) 0 + 2 ^ (t % 13)) = digs v (t + 1) := by
  have hq : t / 13 < 11 := by omega
  apply List.ext_getElem?
  intro m
  by_cases hm : m < 11
  · have e1 : (digs v (t + 1))[m]? = some (v % 2 ^ (t + 1) / 2 ^ (13 * m) % 8192) := by unfold digs; rw [List.getElem?_map, List.getElem?_range hm]; rfl
    have e0 : (digs v t)[m]? = some (v % 2 ^ t / 2 ^ (13 * m) % 8192) := by unfold digs; rw [List.getElem?_map, List.getElem?_range hm]; rfl
    by_cases h : m = t / 13
    · subst h
      rw [List.getElem?_set_self (by rw [digs_len]; exact hq), e1, (digit_own v t).1, digs_at v t _ hq, hb, Nat.one_mul]
    · rw [List.getElem?_set_ne (fun e => h e.symm), e0, e1, digit_other v t m h]
  · rw [List.getElem?_eq_none (by rw [List.length_set, digs_len]; omega), List.getElem?_eq_none (by rw [digs_len]; omega)]
theorem digs_nobit (v t : Nat) (hb : v / 2 ^ t % 2 = 0) : digs v (t + 1) = digs v t := by
  apply List.ext_getElem?
  intro m
  by_cases hm : m < 11
  · have e1 : (digs v (t + 1))[m]? = some (v % 2 ^ (t + 1) / 2 ^ (13 * m) % 8192) := by unfold digs; rw [List.getElem?_map, List.getElem?_range hm]; rfl
    have e0 : (digs v t)[m]? = some (v % 2 ^ t / 2 ^ (13 * m) % 8192) := by unfold digs; rw [List.getElem?_map, List.getElem?_range hm]; rfl
    rw [e0, e1]
    by_cases h : m = t / 13
    · subst h
      rw [(digit_own v t).1, hb, Nat.zero_mul, Nat.add_zero]
    · rw [digit_other v t m h]
  · rw [List.getElem?_eq_none (by rw [digs_len]; omega), List.getElem?_eq_none (by rw [digs_len]; omega)]
end Go.Proofs.Ytooaaacingaapaa.OneM
