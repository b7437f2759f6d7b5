/-
  HMAC as plain mathematics; no program is named here. Conditions: in each statement.
-/
import Derived.Test.YtnlhcogmccladaaDoorHashMath
namespace Go.Proofs.YtnlhcogmccladaaDoor.MacM
open HashM HashX HashMath

/-- A key as it is taken: its sum, if it is longer than a block. -/
def kk (k : List UInt8) : List UInt8 := if 64 < k.length then HashM.sum k else k
theorem sum_len (l : List UInt8) : (HashM.sum l).length = 32 := hend_len IV sm_IV _ _
theorem kk_len (k : List UInt8) : (kk k).length ≤ 64 := by
  unfold kk
  split
  · rw [sum_len]; omega
  · omega
/-- The first i bytes, noughts behind them. -/
def fillK (k : List UInt8) (i : Nat) : List UInt8 := k.take i ++ List.replicate (64 - i) 0
theorem fillK_len (k : List UInt8) (i : Nat) (hi : i ≤ k.length) (hk : k.length ≤ 64) : (fillK k i).length = 64 := by simp [fillK]; omega
theorem fillK_set (k : List UInt8) (i : Nat) (hi : i < k.length) (hk : k.length ≤ 64) : (fillK k i).set i k[i] = fillK k (i + 1) := by
  have h1 : (k.take i).length = i := by simp; omega
  unfold fillK
  rw [List.set_append, if_neg (by omega), h1, Nat.sub_self, show 64 - i = (64 - (i + 1)) + 1 by omega, List.replicate_succ, List.set_cons_zero, List.take_succ_eq_append_getElem hi, List.append_assoc]
  rfl
/-- A key of one block. -/
def kb (k : List UInt8) : List UInt8 := fillK (kk k) (kk k).length
theorem kb_len (k : List UInt8) : (kb k).length = 64 := fillK_len _ _ (Nat.le_refl _) (kk_len k)
def inner (k : List UInt8) : List UInt8 := (kb k).map (· ^^^ 54)
def outer (k : List UInt8) : List UInt8 := (kb k).map (· ^^^ 92)
theorem inner_len (k : List UInt8) : (inner k).length = 64 := by rw [inner, List.length_map, kb_len]
theorem outer_len (k : List UInt8) : (outer k).length = 64 := by rw [outer, List.length_map, kb_len]
def hmac (k b : List UInt8) : List UInt8 := HashM.sum (outer k ++ HashM.sum (inner k ++ b))
theorem hmac_len (k b : List UInt8) : (hmac k b).length = 32 := sum_len _
end Go.Proofs.YtnlhcogmccladaaDoor.MacM
