/-
  Hexadecimal digits: plain mathematics. Conditions: in each statement.
-/
import Derived.Test.YtooaaacingaapaaKa
namespace Go.Proofs.Ytooaaacingaapaa.TextUnhexW

theorem dig_cases {c : UInt8} {n : Nat} (h : TextM.dig c = some n) :
    ∃ x : Nat, c.toNat = x ∧ ((48 ≤ (x : Int) ∧ (x : Int) ≤ 57 ∧ (n : Int) = x - 48) ∨ (97 ≤ (x : Int) ∧ (x : Int) ≤ 102 ∧ (n : Int) = x - 87)) := by
  refine ⟨_, rfl, ?_⟩
  unfold TextM.dig at h
  split at h
  · simp at h; omega
  · split at h
    · simp at h; omega
    · cases h

theorem dig_none {c : UInt8} (h : TextM.dig c = none) :
    ∃ x : Nat, c.toNat = x ∧ ((x : Int) < 48 ∨ (57 < (x : Int) ∧ (x : Int) < 97) ∨ 102 < (x : Int)) := by
  refine ⟨_, rfl, ?_⟩
  unfold TextM.dig at h
  split at h
  · cases h
  · split at h
    · cases h
    · omega
end Go.Proofs.Ytooaaacingaapaa.TextUnhexW
