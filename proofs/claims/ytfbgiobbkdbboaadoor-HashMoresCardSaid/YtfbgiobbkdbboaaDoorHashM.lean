/-
  Plain mathematics of SHA-256: words, the schedule, the rounds, padding, blocks; no program is named here. Conditions: none.
-/
import Derived.Test.YtfbgiobbkdbboaaDoorVecM
namespace Go.Proofs.YtfbgiobbkdbboaaDoor.HashM
open VecM (be val be_length)

/-- Turned right by n bits. -/
def rot (n x : Nat) : Nat := x / 2 ^ n + x % 2 ^ n * 2 ^ (32 - n)
def ls0 (x : Nat) : Nat := rot 7 x ^^^ rot 18 x ^^^ x / 8
def ls1 (x : Nat) : Nat := rot 17 x ^^^ rot 19 x ^^^ x / 1024
def bs0 (x : Nat) : Nat := rot 2 x ^^^ rot 13 x ^^^ rot 22 x
def bs1 (x : Nat) : Nat := rot 6 x ^^^ rot 11 x ^^^ rot 25 x
def ch (e f g : Nat) : Nat := (e &&& f) ^^^ ((4294967295 - e) &&& g)
def maj (a b c : Nat) : Nat := (a &&& b) ^^^ (a &&& c) ^^^ (b &&& c)

/-- The first bits behind the point of the cube roots of the first primes. -/
def K : List Nat := [
  0x428a2f98, 0x71374491, 0xb5c0fbcf, 0xe9b5dba5, 0x3956c25b, 0x59f111f1, 0x923f82a4, 0xab1c5ed5,
  0xd807aa98, 0x12835b01, 0x243185be, 0x550c7dc3, 0x72be5d74, 0x80deb1fe, 0x9bdc06a7, 0xc19bf174,
  0xe49b69c1, 0xefbe4786, 0x0fc19dc6, 0x240ca1cc, 0x2de92c6f, 0x4a7484aa, 0x5cb0a9dc, 0x76f988da,
  0x983e5152, 0xa831c66d, 0xb00327c8, 0xbf597fc7, 0xc6e00bf3, 0xd5a79147, 0x06ca6351, 0x14292967,
  0x27b70a85, 0x2e1b2138, 0x4d2c6dfc, 0x53380d13, 0x650a7354, 0x766a0abb, 0x81c2c92e, 0x92722c85,
  0xa2bfe8a1, 0xa81a664b, 0xc24b8b70, 0xc76c51a3, 0xd192e819, 0xd6990624, 0xf40e3585, 0x106aa070,
  0x19a4c116, 0x1e376c08, 0x2748774c, 0x34b0bcb5, 0x391c0cb3, 0x4ed8aa4a, 0x5b9cca4f, 0x682e6ff3,
  0x748f82ee, 0x78a5636f, 0x84c87814, 0x8cc70208, 0x90befffa, 0xa4506ceb, 0xbef9a3f7, 0xc67178f2]
/-- .. and of the square roots. -/
def IV : List Nat := [0x6a09e667, 0xbb67ae85, 0x3c6ef372, 0xa54ff53a, 0x510e527f, 0x9b05688c, 0x1f83d9ab, 0x5be0cd19]

/-- The variables of a round. -/
structure St where
  a : Nat
  b : Nat
  c : Nat
  d : Nat
  e : Nat
  f : Nat
  g : Nat
  h : Nat

def t1 (k w : Nat) (s : St) : Nat := (s.h + bs1 s.e + ch s.e s.f s.g + k + w) % 4294967296
def t2 (s : St) : Nat := (bs0 s.a + maj s.a s.b s.c) % 4294967296
def rnd (k w : Nat) (s : St) : St := ⟨(t1 k w s + t2 s) % 4294967296, s.a, s.b, s.c, (s.d + t1 k w s) % 4294967296, s.e, s.f, s.g⟩

/-- The words of a block. -/
def words (b : List UInt8) : List Nat := (List.range 16).map fun i => val ((b.drop (4 * i)).take 4)
/-- The next word of the schedule. -/
def next (w : List Nat) : Nat := (w.getD (w.length - 16) 0 + w.getD (w.length - 7) 0 + ls0 (w.getD (w.length - 15) 0) + ls1 (w.getD (w.length - 2) 0)) % 4294967296
def ext : Nat → List Nat → List Nat
  | 0, w => w
  | n + 1, w => ext n w ++ [next (ext n w)]
def sched (b : List UInt8) : List Nat := ext 48 (words b)
def rn (W : List Nat) (s : St) : Nat → St
  | 0 => s
  | j + 1 => rnd (K.getD j 0) (W.getD j 0) (rn W s j)
def ofList (l : List Nat) : St := ⟨l.getD 0 0, l.getD 1 0, l.getD 2 0, l.getD 3 0, l.getD 4 0, l.getD 5 0, l.getD 6 0, l.getD 7 0⟩
def St.toList (s : St) : List Nat := [s.a, s.b, s.c, s.d, s.e, s.f, s.g, s.h]
/-- One block. -/
def block (s : List Nat) (b : List UInt8) : List Nat := List.zipWith (fun x y => (x + y) % 4294967296) s (rn (sched b) (ofList s) 64).toList

/-- All whole blocks. -/
def run (s : List Nat) (l : List UInt8) : List Nat := if _h : 64 ≤ l.length then run (block s (l.take 64)) (l.drop 64) else s
termination_by l.length
decreasing_by rw [List.length_drop]; omega

def zeros (n : Nat) : Nat := (64 - (n + 9) % 64) % 64
def pad (rest : List UInt8) (long : Nat) : List UInt8 := rest ++ [128] ++ List.replicate (zeros rest.length) 0 ++ be 8 (long * 8)
def digest (s : List Nat) : List UInt8 := s.flatMap (be 4)
def hend (s : List Nat) (rest : List UInt8) (long : Nat) : List UInt8 := digest (run s (pad rest long))
def sum (b : List UInt8) : List UInt8 := hend IV b b.length

theorem sum_abc : sum [97, 98, 99] = [0xba, 0x78, 0x16, 0xbf, 0x8f, 0x01, 0xcf, 0xea, 0x41, 0x41, 0x40, 0xde, 0x5d, 0xae, 0x22, 0x23, 0xb0, 0x03, 0x61, 0xa3, 0x96, 0x17, 0x7a, 0x9c, 0xb4, 0x10, 0xff, 0x61, 0xf2, 0x00, 0x15, 0xad] := by
  have e : run IV (pad [97, 98, 99] 3) = block IV (pad [97, 98, 99] 3) := by
    rw [run, dif_pos (by decide +kernel), run, dif_neg (by decide +kernel), List.take_of_length_le (by decide +kernel)]
  unfold sum hend
  show digest (run IV (pad [97, 98, 99] 3)) = _
  rw [e]
  decide +kernel
end Go.Proofs.YtfbgiobbkdbboaaDoor.HashM
