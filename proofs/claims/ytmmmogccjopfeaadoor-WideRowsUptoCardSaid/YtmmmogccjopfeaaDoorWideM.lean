/-
  Plain mathematics of SHA-512: words, the schedule, the rounds, padding, blocks; no program is named here. Conditions: none.
-/
import Derived.Test.YtmmmogccjopfeaaDoorVecM
namespace Go.Proofs.YtmmmogccjopfeaaDoor.WideM
open VecM (be val be_length)

/-- Turned right by n bits. -/
def rot (n x : Nat) : Nat := x / 2 ^ n + x % 2 ^ n * 2 ^ (64 - n)
def ls0 (x : Nat) : Nat := rot 1 x ^^^ rot 8 x ^^^ x / 128
def ls1 (x : Nat) : Nat := rot 19 x ^^^ rot 61 x ^^^ x / 64
def bs0 (x : Nat) : Nat := rot 28 x ^^^ rot 34 x ^^^ rot 39 x
def bs1 (x : Nat) : Nat := rot 14 x ^^^ rot 18 x ^^^ rot 41 x
def ch (e f g : Nat) : Nat := (e &&& f) ^^^ ((18446744073709551615 - e) &&& g)
def maj (a b c : Nat) : Nat := (a &&& b) ^^^ (a &&& c) ^^^ (b &&& c)

/-- The first bits behind the point of the cube roots of the first primes. -/
def K : List Nat := [
  0x428a2f98d728ae22, 0x7137449123ef65cd, 0xb5c0fbcfec4d3b2f, 0xe9b5dba58189dbbc,
  0x3956c25bf348b538, 0x59f111f1b605d019, 0x923f82a4af194f9b, 0xab1c5ed5da6d8118,
  0xd807aa98a3030242, 0x12835b0145706fbe, 0x243185be4ee4b28c, 0x550c7dc3d5ffb4e2,
  0x72be5d74f27b896f, 0x80deb1fe3b1696b1, 0x9bdc06a725c71235, 0xc19bf174cf692694,
  0xe49b69c19ef14ad2, 0xefbe4786384f25e3, 0x0fc19dc68b8cd5b5, 0x240ca1cc77ac9c65,
  0x2de92c6f592b0275, 0x4a7484aa6ea6e483, 0x5cb0a9dcbd41fbd4, 0x76f988da831153b5,
  0x983e5152ee66dfab, 0xa831c66d2db43210, 0xb00327c898fb213f, 0xbf597fc7beef0ee4,
  0xc6e00bf33da88fc2, 0xd5a79147930aa725, 0x06ca6351e003826f, 0x142929670a0e6e70,
  0x27b70a8546d22ffc, 0x2e1b21385c26c926, 0x4d2c6dfc5ac42aed, 0x53380d139d95b3df,
  0x650a73548baf63de, 0x766a0abb3c77b2a8, 0x81c2c92e47edaee6, 0x92722c851482353b,
  0xa2bfe8a14cf10364, 0xa81a664bbc423001, 0xc24b8b70d0f89791, 0xc76c51a30654be30,
  0xd192e819d6ef5218, 0xd69906245565a910, 0xf40e35855771202a, 0x106aa07032bbd1b8,
  0x19a4c116b8d2d0c8, 0x1e376c085141ab53, 0x2748774cdf8eeb99, 0x34b0bcb5e19b48a8,
  0x391c0cb3c5c95a63, 0x4ed8aa4ae3418acb, 0x5b9cca4f7763e373, 0x682e6ff3d6b2b8a3,
  0x748f82ee5defb2fc, 0x78a5636f43172f60, 0x84c87814a1f0ab72, 0x8cc702081a6439ec,
  0x90befffa23631e28, 0xa4506cebde82bde9, 0xbef9a3f7b2c67915, 0xc67178f2e372532b,
  0xca273eceea26619c, 0xd186b8c721c0c207, 0xeada7dd6cde0eb1e, 0xf57d4f7fee6ed178,
  0x06f067aa72176fba, 0x0a637dc5a2c898a6, 0x113f9804bef90dae, 0x1b710b35131c471b,
  0x28db77f523047d84, 0x32caab7b40c72493, 0x3c9ebe0a15c9bebc, 0x431d67c49c100d4c,
  0x4cc5d4becb3e42b6, 0x597f299cfc657e2a, 0x5fcb6fab3ad6faec, 0x6c44198c4a475817]
/-- .. and of the square roots. -/
def IV : List Nat := [0x6a09e667f3bcc908, 0xbb67ae8584caa73b, 0x3c6ef372fe94f82b, 0xa54ff53a5f1d36f1, 0x510e527fade682d1, 0x9b05688c2b3e6c1f, 0x1f83d9abfb41bd6b, 0x5be0cd19137e2179]

/-- The variables of a round. -/
structure St where
  a : Nat
  b : Nat
  c : Nat
  d : Nat
  e : Nat
  f : Nat
  g : Nat
  h : Nat

def t1 (k w : Nat) (s : St) : Nat := (s.h + bs1 s.e + ch s.e s.f s.g + k + w) % 18446744073709551616
def t2 (s : St) : Nat := (bs0 s.a + maj s.a s.b s.c) % 18446744073709551616
def rnd (k w : Nat) (s : St) : St := ⟨(t1 k w s + t2 s) % 18446744073709551616, s.a, s.b, s.c, (s.d + t1 k w s) % 18446744073709551616, s.e, s.f, s.g⟩

/-- The words of a block. -/
def words (b : List UInt8) : List Nat := (List.range 16).map fun i => val ((b.drop (8 * i)).take 8)
/-- The next word of the schedule. -/
def next (w : List Nat) : Nat := (w.getD (w.length - 16) 0 + w.getD (w.length - 7) 0 + ls0 (w.getD (w.length - 15) 0) + ls1 (w.getD (w.length - 2) 0)) % 18446744073709551616
def ext : Nat → List Nat → List Nat
  | 0, w => w
  | n + 1, w => ext n w ++ [next (ext n w)]
def sched (b : List UInt8) : List Nat := ext 64 (words b)
def rn (W : List Nat) (s : St) : Nat → St
  | 0 => s
  | j + 1 => rnd (K.getD j 0) (W.getD j 0) (rn W s j)
def ofList (l : List Nat) : St := ⟨l.getD 0 0, l.getD 1 0, l.getD 2 0, l.getD 3 0, l.getD 4 0, l.getD 5 0, l.getD 6 0, l.getD 7 0⟩
def St.toList (s : St) : List Nat := [s.a, s.b, s.c, s.d, s.e, s.f, s.g, s.h]
/-- One block. -/
def block (s : List Nat) (b : List UInt8) : List Nat := List.zipWith (fun x y => (x + y) % 18446744073709551616) s (rn (sched b) (ofList s) 80).toList

/-- All whole blocks. -/
def run (s : List Nat) (l : List UInt8) : List Nat := if _h : 128 ≤ l.length then run (block s (l.take 128)) (l.drop 128) else s
termination_by l.length
decreasing_by rw [List.length_drop]; omega

def zeros (n : Nat) : Nat := (128 - (n + 17) % 128) % 128
def pad (rest : List UInt8) (long : Nat) : List UInt8 := rest ++ [128] ++ List.replicate (zeros rest.length) 0 ++ be 16 (long * 8)
def digest (s : List Nat) : List UInt8 := s.flatMap (be 8)
def hend (s : List Nat) (rest : List UInt8) (long : Nat) : List UInt8 := digest (run s (pad rest long))
def sum (b : List UInt8) : List UInt8 := hend IV b b.length

theorem sum_abc : sum [97, 98, 99] = [0xdd, 0xaf, 0x35, 0xa1, 0x93, 0x61, 0x7a, 0xba, 0xcc, 0x41, 0x73, 0x49, 0xae, 0x20, 0x41, 0x31, 0x12, 0xe6, 0xfa, 0x4e, 0x89, 0xa9, 0x7e, 0xa2, 0x0a, 0x9e, 0xee, 0xe6, 0x4b, 0x55, 0xd3, 0x9a, 0x21, 0x92, 0x99, 0x2a, 0x27, 0x4f, 0xc1, 0xa8, 0x36, 0xba, 0x3c, 0x23, 0xa3, 0xfe, 0xeb, 0xbd, 0x45, 0x4d, 0x44, 0x23, 0x64, 0x3c, 0xe8, 0x0e, 0x2a, 0x9a, 0xc9, 0x4f, 0xa5, 0x4c, 0xa4, 0x9f] := by
  have e : run IV (pad [97, 98, 99] 3) = block IV (pad [97, 98, 99] 3) := by
    rw [run, dif_pos (by decide +kernel), run, dif_neg (by decide +kernel), List.take_of_length_le (by decide +kernel)]
  unfold sum hend
  show digest (run IV (pad [97, 98, 99] 3)) = _
  rw [e]
  decide +kernel
end Go.Proofs.YtmmmogccjopfeaaDoor.WideM
