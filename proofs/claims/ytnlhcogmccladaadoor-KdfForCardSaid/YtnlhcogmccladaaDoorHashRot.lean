/-
  hash.rotr and math/bits.RotateLeft32 by a count from -31 to -1: what they hand back. Conditions: in each statement.
-/
import Derived.Test.YtnlhcogmccladaaDoorHashTurnM
namespace Go.Proofs.YtnlhcogmccladaaDoor.HashRotW
open Go.RowKit BytesW HashM HashTurnW

theorem low (n : Nat) (h1 : 1 ≤ n) (h2 : n ≤ 31) : bits .and .u64 (IntKind.u64.wrap (-(n : Int))) 31 = ((32 - n : Nat) : Int) := by
  have h : ∀ m : Fin 32, 1 ≤ m.val → bits .and .u64 (IntKind.u64.wrap (-(m.val : Int))) 31 = ((32 - m.val : Nat) : Int) := by decide +kernel
  exact h ⟨n, by omega⟩ h1

set_option maxHeartbeats 1000000 in
theorem left_any (n x : Nat) (h1n : 1 ≤ n) (hn : n ≤ 31) (hx : x < 4294967296) (m : Int) (hm : m = -(n : Int)) (w : World) :
    Calls Tryd.prog 61 #[.int .u32 (x : Int), .int .i64 m] w fun e w' => e = .returned (.int .u32 (rot n x : Int)) ∧ w = w' := by
  have e0 := low n h1n hn
  rw [← hm] at e0
  have e1 : IntKind.u64.wrap (32 - ((32 - n : Nat) : Int)) = (n : Int) := by rw [IntKind.wrap_u64]; omega
  obtain ⟨s, hs⟩ : ∃ s, 32 - n = s := ⟨_, rfl⟩
  have HT := Lib.hid (show bits .or .u32 ((x : Int) * 2 ^ s % 4294967296) ((x : Int) / 2 ^ n) = (rot n x : Int) by
    have h := turn_or n x hn h1n hx
    rw [hs, Bits.or_u32 _ _ (Nat.lt_of_le_of_lt (Nat.div_le_self _ _) hx) (Nat.mod_lt _ (by decide)), Nat.or_comm, ← Bits.or_u32 _ _ (Nat.mod_lt _ (by decide)) (Nat.lt_of_le_of_lt (Nat.div_le_self _ _) hx)] at h
    rw [Int.natCast_ediv, Int.natCast_emod, Int.natCast_mul, Int.natCast_pow, Int.natCast_pow] at h
    exact h)
  rw [hs] at e0 e1
  have hs64 : s ≤ 31 := by omega
  clear hm hs
  go_enter Tryd.func61, Tryd.ntmps61
  go_wp2
  go_ret
  refine ⟨?_, rfl⟩
  rw [← HT.out]
  rfl

set_option maxHeartbeats 1000000 in
theorem rotr_any (n x : Nat) (m : Int) (hm : m = (n : Int)) (h1n : 1 ≤ n) (hn : n ≤ 31) (hx : x < 4294967296) (w : World) :
    Calls Tryd.prog 59 #[.int .u32 (x : Int), .int .i64 m] w fun e w' => e = .returned (.int .u32 (rot n x : Int)) ∧ w = w' := by
  have e1 : IntKind.i64.wrap (-m) = -m := by rw [IntWalk.i64_in _ (by omega)]
  have hc := left_any n x h1n hn hx (-m) (by omega) w
  have HC := Lib.hid hc
  clear hc hm
  go_enter Tryd.func59, Tryd.ntmps59
  go_wp2_with fail
  refine HC.out.mono ?_
  rintro _ _ ⟨rfl, rfl⟩
  go_wp2
  go_ret
  exact ⟨rfl, rfl⟩

/-- .. in a world that has only drawn since. -/
theorem rotr_in (w : World) (n x : Nat) (m : Int) (hm : m = (n : Int)) (h1n : 1 ≤ n) (hn : n ≤ 31) (hx : x < 4294967296) (q : Nat) :
    Calls Tryd.prog 59 #[.int .u32 (x : Int), .int .i64 m] (w.drewN q) fun e w'' => e = .returned (.int .u32 (rot n x : Int)) ∧ ∃ m, w'' = w.drewN m :=
  (rotr_any n x m hm h1n hn hx (w.drewN q)).mono fun _ _ h => ⟨h.1, q, h.2.symm⟩
end Go.Proofs.YtnlhcogmccladaaDoor.HashRotW
