/-
  ticketwardref.eturn: what it hands back. Conditions: in the statement.
-/
import Derived.Test.YtmmmogccjopfeaaDoorBytesX
import Derived.Test.YtmmmogccjopfeaaDoorBits64
import Derived.Test.YtmmmogccjopfeaaDoorWideM
import Derived.WalkKit
import Derived.BigCall
import Derived.Lib.Hide
import Derived.Outline
import Derived.Deep.DeepMust
import Derived.RegionTactic
import Derived.ChangeAlike
import Derived.Deep.QuietTactic
import Derived.BigQuiet
namespace Go.Proofs.YtmmmogccjopfeaaDoor.WideTurnW
open Go.RowKit BytesW WideM

theorem rot_lt (n x : Nat) (hn : n ≤ 64) (hx : x < 18446744073709551616) : rot n x < 18446744073709551616 := by
  unfold rot
  have hp : 2 ^ n * 2 ^ (64 - n) = 18446744073709551616 := by rw [← Nat.pow_add, show n + (64 - n) = 64 from by omega]
  have h0 : 0 < 2 ^ n := Nat.pow_pos (by decide)
  have h1 : x / 2 ^ n < 2 ^ (64 - n) := by rw [Nat.div_lt_iff_lt_mul h0, Nat.mul_comm, hp]; exact hx
  have h2 : x % 2 ^ n < 2 ^ n := Nat.mod_lt _ h0
  have h3 : (x % 2 ^ n + 1) * 2 ^ (64 - n) ≤ 2 ^ n * 2 ^ (64 - n) := Nat.mul_le_mul_right _ h2
  rw [hp, Nat.add_mul] at h3
  omega

/-- What the two shifts join to. -/
theorem turn_or (n x : Nat) (hn : n ≤ 63) (h1n : 1 ≤ n) (hx : x < 18446744073709551616) : bits .or .u64 ((x / 2 ^ n : Nat) : Int) ((x * 2 ^ (64 - n) % 18446744073709551616 : Nat) : Int) = (rot n x : Int) := by
  have hp : 2 ^ n * 2 ^ (64 - n) = 18446744073709551616 := by rw [← Nat.pow_add, show n + (64 - n) = 64 from by omega]
  have h0 : 0 < 2 ^ n := Nat.pow_pos (by decide)
  have e : x * 2 ^ (64 - n) % 18446744073709551616 = x % 2 ^ n * 2 ^ (64 - n) := by rw [← hp, Nat.mul_mod_mul_right]
  have h2 : x % 2 ^ n < 2 ^ n := Nat.mod_lt _ h0
  have h3 : (x % 2 ^ n + 1) * 2 ^ (64 - n) ≤ 2 ^ n * 2 ^ (64 - n) := Nat.mul_le_mul_right _ h2
  have hy : x / 2 ^ n < 2 ^ (64 - n) := by rw [Nat.div_lt_iff_lt_mul h0, Nat.mul_comm, hp]; exact hx
  have h5 : 0 < 2 ^ (64 - n) := Nat.pow_pos (by decide)
  rw [hp, Nat.add_mul] at h3
  have hb : x % 2 ^ n * 2 ^ (64 - n) < 18446744073709551616 := by omega
  have hlt : x / 2 ^ n < 18446744073709551616 := Nat.lt_of_le_of_lt (Nat.div_le_self _ _) hx
  rw [e, Bits.or_u64 _ _ hlt hb, Nat.or_comm]
  unfold rot
  have h6 := Nat.two_pow_add_eq_or_of_lt hy (x % 2 ^ n)
  rw [Nat.mul_comm (2 ^ (64 - n))] at h6
  rw [← h6, Nat.add_comm]

set_option maxHeartbeats 1000000 in
theorem turn_any (n x : Nat) (m : Int) (hm : m = (n : Int)) (h1n : 1 ≤ n) (hn : n ≤ 63) (hx : x < 18446744073709551616) (w : World) :
    Calls Tryd.prog 23 #[.int .u64 (x : Int), .int .i64 m] w fun e w' => e = .returned (.int .u64 (rot n x : Int)) ∧ ∃ k, w' = w.drewN k := by
  subst hm
  have e1 : IntKind.i64.wrap (64 - (n : Int)) = ((64 - n : Nat) : Int) := by rw [IntWalk.i64_in _ (by omega)]; omega
  have HT := Lib.hid (show bits .or .u64 ((x : Int) / 2 ^ n) ((x : Int) * 2 ^ (64 - n) % 18446744073709551616) = (rot n x : Int) by
    have h := turn_or n x hn h1n hx
    rw [Int.natCast_ediv, Int.natCast_emod, Int.natCast_mul, Int.natCast_pow, Int.natCast_pow] at h
    exact h)
  go_enter Tryd.func23, Tryd.ntmps23
  go_wp2
  go_quiet (fail)
  go_wp2
  go_ret
  refine ⟨?_, _, rfl⟩
  rw [← HT.out]
  rfl
end Go.Proofs.YtmmmogccjopfeaaDoor.WideTurnW
