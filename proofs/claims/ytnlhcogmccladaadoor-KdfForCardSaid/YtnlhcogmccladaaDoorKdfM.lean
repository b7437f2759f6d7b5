/-
  HKDF as plain mathematics; no program is named here. Conditions: in each statement.
-/
import Derived.Test.YtnlhcogmccladaaDoorMacM
namespace Go.Proofs.YtnlhcogmccladaaDoor.KdfM
open MacM

def extract (salt secret : List UInt8) : List UInt8 := hmac (if salt.length = 0 then List.replicate 32 0 else salt) secret
/-- The n-th 32 bytes. -/
def gpart (key info : List UInt8) : Nat → List UInt8
  | 0 => []
  | n + 1 => hmac key (gpart key info n ++ info ++ [UInt8.ofNat (n + 1)])
theorem gpart_len (key info : List UInt8) (n : Nat) : (gpart key info (n + 1)).length = 32 := hmac_len _ _
theorem gpart_le (key info : List UInt8) (n : Nat) : (gpart key info n).length ≤ 32 := by
  cases n with
  | zero => simp [gpart]
  | succ n => rw [gpart_len]; omega
/-- The first n parts. -/
def pre (key info : List UInt8) : Nat → List UInt8
  | 0 => []
  | n + 1 => pre key info n ++ gpart key info (n + 1)
theorem pre_len (key info : List UInt8) (n : Nat) : (pre key info n).length = 32 * n := by
  induction n with
  | zero => rfl
  | succ n ih => rw [pre, List.length_append, ih, gpart_len]; omega
def expand (key info : List UInt8) (long : Nat) : List UInt8 := (pre key info ((long + 31) / 32)).take long
theorem expand_len (key info : List UInt8) (long : Nat) : (expand key info long).length = long := by
  rw [expand, List.length_take, pre_len]
  omega
theorem pre_more (key info : List UInt8) (m n : Nat) (h : m ≤ n) : (pre key info n).take (32 * m) = pre key info m := by
  induction n with
  | zero =>
    obtain rfl : m = 0 := by omega
    rfl
  | succ n ih =>
    by_cases e : m = n + 1
    · rw [e, ← pre_len key info (n + 1), List.take_length]
    · rw [pre, List.take_append_of_le_length (by rw [pre_len]; omega)]
      exact ih (by omega)
/-- Fewer bytes are the beginning of more. -/
theorem expand_begins (key info : List UInt8) (less long : Nat) (h : less ≤ long) : (expand key info long).take less = expand key info less := by
  unfold expand
  rw [List.take_take, Nat.min_eq_left h, ← pre_more key info ((less + 31) / 32) ((long + 31) / 32) (by omega), List.take_take, Nat.min_eq_left (by omega)]

/-- What stands ahead of every label. -/
def tls : List UInt8 := [116, 108, 115, 49, 51, 32]
def info (lab ctx : List UInt8) (long : Nat) : List UInt8 := [UInt8.ofNat (long / 256), UInt8.ofNat (long % 256), UInt8.ofNat (lab.length + 6)] ++ (tls ++ lab) ++ [UInt8.ofNat ctx.length] ++ ctx
def glabel (key lab ctx : List UInt8) (long : Int) : List UInt8 × Int :=
  if long < 0 ∨ 8160 < long then ([], 2) else if 249 < lab.length ∨ 255 < ctx.length then ([], 4) else (expand key (info lab ctx long.toNat) long.toNat, 0)
end Go.Proofs.YtnlhcogmccladaaDoor.KdfM
