/-
  What holds of the tag: the second half is added, noughts, bits that do not count: plain mathematics. Conditions: in each statement.
-/
import Derived.Test.YtooaaacingaapaaOneT
namespace Go.Proofs.Ytooaaacingaapaa.OneM

theorem le_len (v : Nat) : (le16 v).length = 16 := by simp [le16]
theorem lev_append (a b : List UInt8) : lev (a ++ b) = lev a + 256 ^ a.length * lev b := by
  induction a with
  | nil => simp [lev]
  | cons x r ih =>
    rw [List.cons_append, lev, lev, ih, List.length_cons, Nat.pow_succ, Nat.mul_add, Nat.mul_comm (256 ^ r.length) 256, Nat.mul_assoc]
    omega
theorem lev_zeros (n : Nat) : lev (List.replicate n 0) = 0 := by
  induction n with
  | zero => rfl
  | succ n ih => rw [List.replicate_succ, lev, ih]; rfl
/-- Byte k of a number. -/
theorem lev_byte (l : List UInt8) : ∀ k, (h : k < l.length) → lev l / 256 ^ k % 256 = l[k].toNat := by
  induction l with
  | nil => intro k h; exact absurd h (by simp)
  | cons x r ih =>
    intro k h
    have hx := x.toNat_lt
    cases k with
    | zero => rw [lev, Nat.pow_zero, Nat.div_one, List.getElem_cons_zero]; omega
    | succ k =>
      rw [List.getElem_cons_succ, lev, Nat.pow_succ, Nat.mul_comm (256 ^ k) 256, ← Nat.div_div_eq_div_mul, Nat.add_mul_div_left _ _ (by decide), Nat.div_eq_of_lt (show x.toNat < 256 from x.toNat_lt), Nat.zero_add]
      exact ih k (by simpa using h)
theorem le_lev (l : List UInt8) (h : l.length = 16) : le16 (lev l) = l := by
  apply List.ext_getElem?
  intro k
  by_cases hk : k < 16
  · unfold le16
    rw [List.getElem?_map, List.getElem?_range hk, Option.map_some, List.getElem?_eq_getElem (by omega)]
    congr 1
    apply UInt8.toNat.inj
    rw [UInt8.toNat_ofNat', ← lev_byte l k (by omega)]
  · rw [List.getElem?_eq_none (by rw [le_len]; omega), List.getElem?_eq_none (by omega)]
theorem le_mod (v : Nat) : le16 (v % 2 ^ 128) = le16 v := by
  unfold le16
  apply List.map_congr_left
  intro k hk
  have hk16 : k < 16 := List.mem_range.1 hk
  apply UInt8.toNat.inj
  rw [UInt8.toNat_ofNat', UInt8.toNat_ofNat']
  have e : (2 : Nat) ^ 128 = 256 ^ k * (256 * 256 ^ (15 - k)) := by
    rw [← Nat.mul_assoc, ← Nat.pow_succ, ← Nat.pow_add, show k.succ + (15 - k) = 16 by omega]
  rw [e, Nat.mod_mul_right_div_self, show (2 : Nat) ^ 8 = 256 by decide, Nat.mod_mul_right_mod]
theorem lev_le (v : Nat) : lev (le16 v) = v % 2 ^ 128 := by
  have h1 : le16 (lev (le16 v)) = le16 (v % 2 ^ 128) := by rw [le_lev _ (le_len v), le_mod]
  have h2 := lev_lt (le16 v)
  rw [le_len] at h2
  have e : (256 : Nat) ^ 16 = 2 ^ 128 := by decide
  rw [e] at h2
  have hv : v % 2 ^ 128 < 2 ^ 128 := Nat.mod_lt _ (by decide)
  have step : ∀ (n a b : Nat), n ≤ 16 → le16 a = le16 b → a % 256 ^ n = b % 256 ^ n := by
    intro n
    induction n with
    | zero => intro a b _ _; rw [Nat.pow_zero, Nat.mod_one, Nat.mod_one]
    | succ n ih =>
      intro a b hn hab
      have h3 := ih a b (by omega) hab
      have h4 : (le16 a)[n]? = (le16 b)[n]? := by rw [hab]
      unfold le16 at h4
      rw [List.getElem?_map, List.getElem?_map, List.getElem?_range (by omega)] at h4
      have h5 := congrArg UInt8.toNat (Option.some.inj h4)
      rw [UInt8.toNat_ofNat', UInt8.toNat_ofNat', show (2 : Nat) ^ 8 = 256 by decide] at h5
      rw [Nat.pow_succ, Nat.mod_mul, Nat.mod_mul, h3, h5]
  have h6 := step 16 _ _ (Nat.le_refl _) h1
  rw [e, Nat.mod_eq_of_lt h2, Nat.mod_eq_of_lt hv] at h6
  exact h6

/-- One more, with what carries. -/
def incL : List UInt8 → List UInt8
  | [] => []
  | x :: r => if x + 1 ≠ 0 then (x + 1) :: r else 0 :: incL r
theorem incL_len (l : List UInt8) : (incL l).length = l.length := by
  induction l with
  | nil => rfl
  | cons x r ih =>
    unfold incL
    split
    · simp
    · simp [ih]
theorem incL_lev (l : List UInt8) : lev (incL l) = (lev l + 1) % 256 ^ l.length := by
  induction l with
  | nil => rfl
  | cons x r ih =>
    have hx := x.toNat_lt
    have hr := lev_lt r
    unfold incL
    by_cases h : x + 1 ≠ 0
    · rw [if_pos h, lev, lev, List.length_cons, Nat.pow_succ]
      have h1 : (x + 1).toNat = x.toNat + 1 := by
        rw [UInt8.toNat_add, show (1 : UInt8).toNat = 1 from rfl]
        apply Nat.mod_eq_of_lt
        rcases Nat.lt_or_ge (x.toNat + 1) 256 with h2 | h2
        · exact h2
        · exfalso
          apply h
          apply UInt8.toNat.inj
          rw [UInt8.toNat_add, show (1 : UInt8).toNat = 1 from rfl, show (0 : UInt8).toNat = 0 from rfl]
          omega
      have h2 := (x + 1).toNat_lt
      rw [h1] at h2 ⊢
      rw [Nat.mod_eq_of_lt (by omega)]
      omega
    · rw [if_neg h, lev, lev, ih, List.length_cons, Nat.pow_succ]
      have h0 : x + 1 = 0 := by simpa using h
      have h1 := congrArg UInt8.toNat h0
      rw [UInt8.toNat_add, show (1 : UInt8).toNat = 1 from rfl, show (0 : UInt8).toNat = 0 from rfl] at h1
      have h2 : x.toNat = 255 := by omega
      rw [h2, show (0 : UInt8).toNat = 0 from rfl, show 255 + 256 * lev r + 1 = 256 * (lev r + 1) by omega, Nat.mul_comm (256 ^ r.length) 256, Nat.mul_mod_mul_left]
      omega
theorem incL_le (v : Nat) : incL (le16 v) = le16 (v + 1) := by
  have h1 := incL_lev (le16 v)
  rw [le_len, lev_le, show (256 : Nat) ^ 16 = 2 ^ 128 by decide, Nat.mod_add_mod] at h1
  have h2 := le_lev (incL (le16 v)) (by rw [incL_len, le_len])
  rw [h1, le_mod] at h2
  exact h2.symm
/-- The second half of a key is only added. -/
theorem tag_shift (key b : List UInt8) (h : key.length = 32) : tagS (key.take 16 ++ incL (key.drop 16)) b = incL (tagS key b) := by
  have hd : (key.drop 16).length = 16 := by rw [List.length_drop]; omega
  have ht : (key.take 16).length = 16 := by rw [List.length_take]; omega
  have h1 : clamp (key.take 16 ++ incL (key.drop 16)) = clamp key := by
    unfold clamp
    apply List.map_congr_left
    intro k hk
    have hk16 : k < 16 := List.mem_range.1 hk
    have e : (key.take 16 ++ incL (key.drop 16)).getD k 0 = key.getD k 0 := by
      rw [List.getD_eq_getElem?_getD, List.getElem?_append_left (by omega), List.getElem?_take, if_pos hk16, ← List.getD_eq_getElem?_getD]
    rw [e]
  have h2 : ((key.take 16 ++ incL (key.drop 16)).drop 16).take 16 = incL (key.drop 16) := by
    rw [List.drop_append, ht, List.drop_of_length_le (by omega), List.nil_append, Nat.sub_self, List.drop_zero, List.take_of_length_le (by rw [incL_len]; omega)]
  unfold tagS
  rw [h1, h2, incL_le, incL_lev, hd, List.take_of_length_le (by omega), show (256 : Nat) ^ 16 = 2 ^ 128 by decide, ← le_mod, Nat.add_mod_mod, le_mod, Nat.add_assoc]
/-- Of nothing. -/
theorem tag_none (key : List UInt8) (h : key.length = 32) : tagS key [] = key.drop 16 := by
  have hd : (key.drop 16).length = 16 := by rw [List.length_drop]; omega
  unfold tagS
  rw [show (([] : List UInt8).length + 15) / 16 = 0 from rfl, accS, Nat.zero_add, List.take_of_length_le (by omega), le_lev _ hd]
theorem accS_zero (b : List UInt8) (n : Nat) : accS 0 b n = 0 := by
  cases n with
  | zero => rfl
  | succ n => rw [accS, Nat.mul_zero, Nat.zero_mod]
/-- By a first half of noughts. -/
theorem tag_zero (key b : List UInt8) (h : key.length = 32) : tagS (List.replicate 16 0 ++ key.drop 16) b = key.drop 16 := by
  have hd : (key.drop 16).length = 16 := by rw [List.length_drop]; omega
  have h1 : clamp (List.replicate 16 0 ++ key.drop 16) = List.replicate 16 0 := by
    apply List.ext_getElem?
    intro k
    by_cases hk : k < 16
    · unfold clamp
      have e : (List.replicate 16 (0 : UInt8) ++ key.drop 16).getD k 0 = 0 := by
        rw [List.getD_eq_getElem?_getD, List.getElem?_append_left (by simpa using hk), List.getElem?_replicate, if_pos hk]
        rfl
      rw [List.getElem?_map, List.getElem?_range hk, Option.map_some, e, List.getElem?_replicate, if_pos hk]
      congr 1
      split
      · rfl
      · split
        · rfl
        · rfl
    · rw [List.getElem?_eq_none (by simp [clamp]; omega), List.getElem?_eq_none (by simp; omega)]
  unfold tagS
  rw [h1, lev_zeros, accS_zero, Nat.zero_add, List.drop_append, List.length_replicate, List.drop_of_length_le (by simp), List.nil_append, Nat.sub_self, List.drop_zero, List.take_of_length_le (by omega), le_lev _ hd]
theorem nib (y x : UInt8) : ((y ^^^ (x &&& 0xf0)).toNat % 16) = y.toNat % 16 := by
  have h : ∀ z : UInt8, z.toNat % 16 = (z &&& 15).toNat := fun z => by
    rw [UInt8.toNat_and, show (15 : UInt8).toNat = 2 ^ 4 - 1 from rfl, Nat.and_two_pow_sub_one_eq_mod]
  rw [h, h]
  congr 1
  rw [UInt8.and_comm _ 15, UInt8.and_comm y 15]
  apply UInt8.toNat.inj
  apply Nat.eq_of_testBit_eq
  intro i
  simp only [UInt8.toNat_and, UInt8.toNat_xor, Nat.testBit_and, Nat.testBit_xor]
  have h2 : ((15 : UInt8).toNat.testBit i && (0xf0 : UInt8).toNat.testBit i) = false := by
    rw [← Nat.testBit_and]
    show (15 &&& 240 : Nat).testBit i = false
    rw [show (15 &&& 240 : Nat) = 0 by decide]
    simp
  cases h3 : (15 : UInt8).toNat.testBit i <;> cases h4 : (0xf0 : UInt8).toNat.testBit i <;> simp_all
theorem low2 (y x : UInt8) : ((y ^^^ (x &&& 3)).toNat / 4 * 4) = y.toNat / 4 * 4 := by
  congr 1
  apply Nat.eq_of_testBit_eq
  intro i
  rw [show (4 : Nat) = 2 ^ 2 by decide, Nat.testBit_div_two_pow, Nat.testBit_div_two_pow, UInt8.toNat_xor, UInt8.toNat_and, Nat.testBit_xor, Nat.testBit_and]
  have h2 : (3 : UInt8).toNat.testBit (i + 2) = false := by
    show (3 : Nat).testBit (i + 2) = false
    rw [show (3 : Nat) = 2 ^ 2 - 1 by decide, Nat.testBit_two_pow_sub_one]
    simp
  rw [h2]
  simp
/-- Bits of a key that do not count. -/
theorem tag_clamp (key b : List UInt8) (at_ : Nat) (z : UInt8) (h : key.length = 32) (h1 : 1 ≤ at_) (h2 : at_ ≤ 15) (hz : (at_ % 4 = 3 ∧ z.toNat % 16 = (key.getD at_ 0).toNat % 16) ∨ (at_ % 4 = 0 ∧ z.toNat / 4 * 4 = (key.getD at_ 0).toNat / 4 * 4)) : tagS (key.set at_ z) b = tagS key b := by
  have hc : clamp (key.set at_ z) = clamp key := by
    unfold clamp
    apply List.map_congr_left
    intro k hk
    by_cases e : k = at_
    · subst e
      rw [List.getD_eq_getElem?_getD, List.getElem?_set_self (by omega), Option.getD_some]
      rcases hz with ⟨hm, hv⟩ | ⟨hm, hv⟩
      · rw [if_pos hm, if_pos hm, hv]
      · have c3 : ¬ k % 4 = 3 := by omega
        have c0 : k % 4 = 0 ∧ k ≠ 0 := ⟨hm, by omega⟩
        simp only [if_neg c3, if_pos c0, hv]
    · rw [List.getD_eq_getElem?_getD, List.getElem?_set_ne (fun e' => e e'.symm), ← List.getD_eq_getElem?_getD]
  unfold tagS
  rw [hc, List.drop_set_of_lt (by omega)]
end Go.Proofs.Ytooaaacingaapaa.OneM
