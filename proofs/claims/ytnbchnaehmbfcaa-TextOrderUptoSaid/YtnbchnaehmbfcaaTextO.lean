/-
  Hexadecimal text keeps the order of bytes: plain mathematics. Conditions: none.
-/
import Derived.Test.YtnbchnaehmbfcaaTextM
import GoSem.Op.String
namespace Go.Proofs.Ytnbchnaehmbfcaa.TextM
open Go

theorem hexD_lt_fin : ∀ n m : Fin 16, (decide (hexD n.val < hexD m.val) = decide (n.val < m.val)) ∧ ((hexD n.val == hexD m.val) = decide (n.val = m.val)) := by decide +kernel
theorem hexD_lt (n m : Nat) (hn : n < 16) (hm : m < 16) : decide (hexD n < hexD m) = decide (n < m) := (hexD_lt_fin ⟨n, hn⟩ ⟨m, hm⟩).1
theorem hexD_eq (n m : Nat) (hn : n < 16) (hm : m < 16) : (hexD n == hexD m) = decide (n = m) := (hexD_lt_fin ⟨n, hn⟩ ⟨m, hm⟩).2

theorem hex_less (a b : List UInt8) : Op.bytesLess (hex a) (hex b) = Op.bytesLess a b := by
  induction a generalizing b with
  | nil => cases b <;> rfl
  | cons x r ih => cases b with
    | nil => rfl
    | cons y s =>
      have hx := x.toNat_lt
      have hy := y.toNat_lt
      simp only [hex, Op.bytesLess, ih]
      rw [hexD_lt _ _ (by omega) (by omega), hexD_lt _ _ (by omega) (by omega), hexD_eq _ _ (by omega) (by omega), hexD_eq _ _ (by omega) (by omega)]
      have e1 : decide (x < y) = decide (x.toNat < y.toNat) := by simp only [UInt8.lt_iff_toNat_lt]
      have e2 : (x == y) = decide (x.toNat = y.toNat) := by
        rw [Bool.eq_iff_iff, beq_iff_eq, decide_eq_true_iff]
        exact ⟨fun h => by rw [h], fun h => UInt8.toNat.inj h⟩
      rw [e1, e2]
      generalize Op.bytesLess r s = t
      generalize x.toNat = p at *
      generalize y.toNat = q at *
      by_cases h1 : p / 16 < q / 16
      · have : p < q := by omega
        simp [h1, this]
      · by_cases h2 : p / 16 = q / 16
        · by_cases h3 : p % 16 < q % 16
          · have : p < q := by omega
            simp [h2, h3, this]
          · by_cases h4 : p = q
            · subst h4; simp
            · have h5 : ¬ p < q := by omega
              have h6 : ¬ p % 16 = q % 16 := by omega
              simp [h2, h3, h4, h5, h6]
        · have h5 : ¬ p < q := by omega
          have h4 : ¬ p = q := by omega
          simp [h1, h2, h4, h5]
end Go.Proofs.Ytnbchnaehmbfcaa.TextM
