/-
  ticketwardref.dturn: what it hands back. Conditions: in the statement.
-/
import Derived.Test.YtnlhcogmccladaaDoorHashTurnM
namespace Go.Proofs.YtnlhcogmccladaaDoor.HashTurnW
open Go.RowKit BytesW HashM

set_option maxHeartbeats 1000000 in
theorem turn_any (n x : Nat) (m : Int) (hm : m = (n : Int)) (h1n : 1 ≤ n) (hn : n ≤ 31) (hx : x < 4294967296) (w : World) :
    Calls Tryd.prog 56 #[.int .u32 (x : Int), .int .i64 m] w fun e w' => e = .returned (.int .u32 (rot n x : Int)) ∧ ∃ k, w' = w.drewN k := by
  subst hm
  have e1 : IntKind.i64.wrap (32 - (n : Int)) = ((32 - n : Nat) : Int) := by rw [IntWalk.i64_in _ (by omega)]; omega
  have HT := Lib.hid (show bits .or .u32 ((x : Int) / 2 ^ n) ((x : Int) * 2 ^ (32 - n) % 4294967296) = (rot n x : Int) by
    have h := turn_or n x hn h1n hx
    rw [Int.natCast_ediv, Int.natCast_emod, Int.natCast_mul, Int.natCast_pow, Int.natCast_pow] at h
    exact h)
  go_enter Tryd.func56, Tryd.ntmps56
  go_wp2
  go_quiet (fail)
  go_wp2
  go_ret
  refine ⟨?_, _, rfl⟩
  rw [← HT.out]
  rfl
end Go.Proofs.YtnlhcogmccladaaDoor.HashTurnW
