/-
  The code of "Hi There" under twenty bytes 11: plain mathematics. Conditions: none.
-/
import Derived.Test.YtnlhcogmccladaaDoorMacK
namespace Go.Proofs.YtnlhcogmccladaaDoor.MacM
open HashM HashX HashMath

theorem run_two_blocks (p : List UInt8) (h : p.length = 128) : run IV p = block (block IV (p.take 64)) (p.drop 64) := by
  rw [run, dif_pos (by omega), run, dif_pos (by rw [List.length_drop]; omega), run, dif_neg (by rw [List.length_drop, List.length_drop]; omega), List.take_of_length_le (l := p.drop 64) (by rw [List.length_drop]; omega)]
def hiIn : List UInt8 := [0x92, 0xab, 0x4d, 0x9a, 0x1f, 0x3b, 0x61, 0x52, 0xbc, 0xa9, 0xdd, 0x9e, 0x69, 0xaf, 0x43, 0xf4, 0xce, 0x99, 0xe4, 0x2f, 0xd4, 0xe3, 0x0f, 0xf9, 0x72, 0xc4, 0x80, 0x25, 0xb9, 0xf9, 0xcf, 0xef]
def hiOut : List UInt8 := [0xb0, 0x34, 0x4c, 0x61, 0xd8, 0xdb, 0x38, 0x53, 0x5c, 0xa8, 0xaf, 0xce, 0xaf, 0x0b, 0xf1, 0x2b, 0x88, 0x1d, 0xc2, 0x00, 0xc9, 0x83, 0x3d, 0xa7, 0x26, 0xe9, 0x37, 0x6c, 0x2e, 0x32, 0xcf, 0xf7]
theorem hi_in : HashM.sum (inner (List.replicate 20 11) ++ [72, 105, 32, 84, 104, 101, 114, 101]) = hiIn := by
  unfold HashM.sum hend
  rw [run_two_blocks _ (by decide +kernel)]
  decide +kernel
theorem hi_out : HashM.sum (outer (List.replicate 20 11) ++ hiIn) = hiOut := by
  unfold HashM.sum hend
  rw [run_two_blocks _ (by decide +kernel)]
  decide +kernel
theorem hmac_hi : hmac (List.replicate 20 11) [72, 105, 32, 84, 104, 101, 114, 101] = hiOut := by
  unfold hmac
  rw [hi_in, hi_out]
end Go.Proofs.YtnlhcogmccladaaDoor.MacM
