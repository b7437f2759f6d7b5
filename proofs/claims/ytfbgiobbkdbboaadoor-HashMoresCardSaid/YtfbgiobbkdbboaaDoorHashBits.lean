/-
  Bits of SHA-256's choice and majority: plain mathematics. Conditions: in each statement.
-/
import Derived.Test.YtfbgiobbkdbboaaDoorHashM
namespace Go.Proofs.YtfbgiobbkdbboaaDoor.HashM

/-- Bit i. -/
def bt (x i : Nat) : Nat := x / 2 ^ i % 2
theorem bt_cases (x i : Nat) : bt x i = 0 ∨ bt x i = 1 := by unfold bt; omega
theorem bt_test (x i : Nat) : x.testBit i = decide (bt x i = 1) := Nat.testBit_eq_decide_div_mod_eq
theorem bt_of (x i : Nat) (b : Bool) (h : x.testBit i = b) : bt x i = if b then 1 else 0 := by
  rw [bt_test] at h
  rcases bt_cases x i with h1 | h1 <;> rw [h1] at h ⊢ <;> subst h <;> rfl

theorem low_bit (c i : Nat) : (c % 2 ^ i) ||| (bt c i * 2 ^ i) = c % 2 ^ (i + 1) := by
  have h := Nat.two_pow_add_eq_or_of_lt (Nat.mod_lt c (Nat.pow_pos (n := i) (show 0 < 2 by decide))) (bt c i)
  rw [Nat.mul_comm (2 ^ i)] at h
  rw [Nat.or_comm, ← h, Nat.mod_pow_succ, Nat.mul_comm]
  unfold bt
  omega
theorem low_bit0 (c i : Nat) (h : bt c i = 0) : c % 2 ^ (i + 1) = c % 2 ^ i := by
  rw [Nat.mod_pow_succ]
  unfold bt at h
  rw [h]
  omega

theorem not_test (e i : Nat) (he : e < 4294967296) (hi : i < 32) : (4294967295 - e).testBit i = !e.testBit i := by
  have h := Nat.testBit_two_pow_sub_succ (n := 32) he i
  rw [show 2 ^ 32 - (e + 1) = 4294967295 - e from by omega] at h
  rw [h]
  simp [hi]

theorem ch_bt (e f g i : Nat) (he : e < 4294967296) (hi : i < 32) : bt (ch e f g) i = if bt e i = 1 then bt f i else bt g i := by
  have h : (ch e f g).testBit i = ((e.testBit i && f.testBit i) ^^ (!e.testBit i && g.testBit i)) := by
    unfold ch
    rw [Nat.testBit_xor, Nat.testBit_and, Nat.testBit_and, not_test e i he hi]
  rw [bt_of _ _ _ h, bt_test, bt_test, bt_test]
  rcases bt_cases e i with h1 | h1 <;> rcases bt_cases f i with h2 | h2 <;> rcases bt_cases g i with h3 | h3 <;> rw [h1, h2, h3] <;> rfl

theorem maj_bt (a b c i : Nat) : bt (maj a b c) i = if 1 < bt a i + bt b i + bt c i then 1 else 0 := by
  have h : (maj a b c).testBit i = ((a.testBit i && b.testBit i) ^^ (a.testBit i && c.testBit i) ^^ (b.testBit i && c.testBit i)) := by
    unfold maj
    rw [Nat.testBit_xor, Nat.testBit_xor, Nat.testBit_and, Nat.testBit_and, Nat.testBit_and]
  rw [bt_of _ _ _ h, bt_test, bt_test, bt_test]
  rcases bt_cases a i with h1 | h1 <;> rcases bt_cases b i with h2 | h2 <;> rcases bt_cases c i with h3 | h3 <;> rw [h1, h2, h3] <;> rfl

theorem ch_lt (e f g : Nat) (hg : g < 4294967296) (hf : f < 4294967296) : ch e f g < 4294967296 := by
  unfold ch
  exact Nat.xor_lt_two_pow (n := 32) (Nat.and_lt_two_pow _ hf) (Nat.and_lt_two_pow _ hg)
theorem maj_lt (a b c : Nat) (hb : b < 4294967296) (hc : c < 4294967296) : maj a b c < 4294967296 := by
  unfold maj
  exact Nat.xor_lt_two_pow (n := 32) (Nat.xor_lt_two_pow (n := 32) (Nat.and_lt_two_pow _ hb) (Nat.and_lt_two_pow _ hc)) (Nat.and_lt_two_pow _ hc)

/-- All words below 2^32. -/
def St.small (s : St) : Prop := s.a < 4294967296 ∧ s.b < 4294967296 ∧ s.c < 4294967296 ∧ s.d < 4294967296 ∧ s.e < 4294967296 ∧ s.f < 4294967296 ∧ s.g < 4294967296 ∧ s.h < 4294967296
theorem rnd_small (k w : Nat) (s : St) (h : s.small) : (rnd k w s).small := by
  obtain ⟨h1, h2, h3, h4, h5, h6, h7, h8⟩ := h
  exact ⟨Nat.mod_lt _ (by decide), h1, h2, h3, Nat.mod_lt _ (by decide), h5, h6, h7⟩
theorem rn_small (W : List Nat) (s : St) (h : s.small) (j : Nat) : (rn W s j).small := by
  induction j with
  | zero => exact h
  | succ j ih => exact rnd_small _ _ _ ih
end Go.Proofs.YtfbgiobbkdbboaaDoor.HashM
