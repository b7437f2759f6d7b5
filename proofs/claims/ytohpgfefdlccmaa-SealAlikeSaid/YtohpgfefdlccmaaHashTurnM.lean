/-
  Turned words: plain mathematics; the kit's tactics. Conditions: in each statement.
-/
import Derived.Test.YtohpgfefdlccmaaKb
import Derived.Test.YtohpgfefdlccmaaKa
import Derived.WalkKit
import Derived.BigCall
import Derived.Lib.Hide
import Derived.Outline
import Derived.Deep.DeepMust
import Derived.RegionTactic
import Derived.ChangeAlike
import Derived.Deep.QuietTactic
import Derived.BigQuiet
namespace Go.Proofs.Ytohpgfefdlccmaa.HashTurnW
open Go.RowKit BytesW HashM

theorem rot_lt (n x : Nat) (hn : n ≤ 32) (hx : x < 4294967296) : rot n x < 4294967296 := by
  unfold rot
  have hp : 2 ^ n * 2 ^ (32 - n) = 4294967296 := by rw [← Nat.pow_add, show n + (32 - n) = 32 from by omega]
  have h0 : 0 < 2 ^ n := Nat.pow_pos (by decide)
  have h1 : x / 2 ^ n < 2 ^ (32 - n) := by rw [Nat.div_lt_iff_lt_mul h0, Nat.mul_comm, hp]; exact hx
  have h2 : x % 2 ^ n < 2 ^ n := Nat.mod_lt _ h0
  have h3 : (x % 2 ^ n + 1) * 2 ^ (32 - n) ≤ 2 ^ n * 2 ^ (32 - n) := Nat.mul_le_mul_right _ h2
  rw [hp, Nat.add_mul] at h3
  omega

/-- What the two shifts join to. -/
theorem turn_or (n x : Nat) (hn : n ≤ 31) (h1n : 1 ≤ n) (hx : x < 4294967296) : bits .or .u32 ((x / 2 ^ n : Nat) : Int) ((x * 2 ^ (32 - n) % 4294967296 : Nat) : Int) = (rot n x : Int) := by
  have hp : 2 ^ n * 2 ^ (32 - n) = 4294967296 := by rw [← Nat.pow_add, show n + (32 - n) = 32 from by omega]
  have h0 : 0 < 2 ^ n := Nat.pow_pos (by decide)
  have e : x * 2 ^ (32 - n) % 4294967296 = x % 2 ^ n * 2 ^ (32 - n) := by rw [← hp, Nat.mul_mod_mul_right]
  have h2 : x % 2 ^ n < 2 ^ n := Nat.mod_lt _ h0
  have h3 : (x % 2 ^ n + 1) * 2 ^ (32 - n) ≤ 2 ^ n * 2 ^ (32 - n) := Nat.mul_le_mul_right _ h2
  have hy : x / 2 ^ n < 2 ^ (32 - n) := by rw [Nat.div_lt_iff_lt_mul h0, Nat.mul_comm, hp]; exact hx
  have h5 : 0 < 2 ^ (32 - n) := Nat.pow_pos (by decide)
  rw [hp, Nat.add_mul] at h3
  have hb : x % 2 ^ n * 2 ^ (32 - n) < 4294967296 := by omega
  have hlt : x / 2 ^ n < 4294967296 := Nat.lt_of_le_of_lt (Nat.div_le_self _ _) hx
  rw [e, Bits.or_u32 _ _ hlt hb, Nat.or_comm]
  unfold rot
  have h6 := Nat.two_pow_add_eq_or_of_lt hy (x % 2 ^ n)
  rw [Nat.mul_comm (2 ^ (32 - n))] at h6
  rw [← h6, Nat.add_comm]
end Go.Proofs.Ytohpgfefdlccmaa.HashTurnW
