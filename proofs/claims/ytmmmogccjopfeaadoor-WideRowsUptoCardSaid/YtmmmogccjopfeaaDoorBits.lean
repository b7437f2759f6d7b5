/-
  Bitwise operations of the model on bytes and words as Lean's own; no program is named here. Conditions: none.
-/
import Derived.Laws.BitsLemmas
namespace Go.Proofs.YtmmmogccjopfeaaDoor.Bits

theorem nat_u8 (op : BinOp) (f : Nat → Nat → Nat) (hf : ∀ a b, a < 256 → b < 256 → f a b < 256)
    (h : ∀ x y : Int, bits op .u8 x y = IntKind.u8.wrap (f (BitVec.ofInt 8 x).toNat (BitVec.ofInt 8 y).toNat : Nat)) (a b : Nat) (ha : a < 256) (hb : b < 256) :
    bits op .u8 (a : Int) (b : Int) = (f a b : Nat) := by
  have h1 : (BitVec.ofInt 8 (a : Int)).toNat = a := by
    rw [BitVec.ofInt_natCast, BitVec.toNat_ofNat]; exact Nat.mod_eq_of_lt (by omega)
  have h2 : (BitVec.ofInt 8 (b : Int)).toNat = b := by
    rw [BitVec.ofInt_natCast, BitVec.toNat_ofNat]; exact Nat.mod_eq_of_lt (by omega)
  rw [h, h1, h2, IntKind.wrap_u8]
  have := hf a b ha hb
  omega

theorem or_u8 (a b : UInt8) : bits .or .u8 (a.toNat : Int) (b.toNat : Int) = ((a ||| b).toNat : Int) := by
  rw [nat_u8 .or (· ||| ·) (fun a b ha hb => Nat.or_lt_two_pow (n := 8) ha hb) (fun x y => by show IntKind.u8.wrap ((BitVec.ofInt 8 x ||| BitVec.ofInt 8 y).toNat : Int) = _; rw [BitVec.toNat_or]) _ _ a.toNat_lt b.toNat_lt, UInt8.toNat_or]
theorem xor_u8 (a b : UInt8) : bits .xor .u8 (a.toNat : Int) (b.toNat : Int) = ((a ^^^ b).toNat : Int) := by
  rw [nat_u8 .xor (· ^^^ ·) (fun a b ha hb => Nat.xor_lt_two_pow (n := 8) ha hb) (fun x y => by show IntKind.u8.wrap ((BitVec.ofInt 8 x ^^^ BitVec.ofInt 8 y).toNat : Int) = _; rw [BitVec.toNat_xor]) _ _ a.toNat_lt b.toNat_lt, UInt8.toNat_xor]
theorem and_u8 (a b : UInt8) : bits .and .u8 (a.toNat : Int) (b.toNat : Int) = ((a &&& b).toNat : Int) := by
  rw [nat_u8 .and (· &&& ·) (fun a b ha hb => Nat.and_lt_two_pow (n := 8) _ hb) (fun x y => by show IntKind.u8.wrap ((BitVec.ofInt 8 x &&& BitVec.ofInt 8 y).toNat : Int) = _; rw [BitVec.toNat_and]) _ _ a.toNat_lt b.toNat_lt, UInt8.toNat_and]

theorem nat_u32 (op : BinOp) (f : Nat → Nat → Nat) (hf : ∀ a b, a < 4294967296 → b < 4294967296 → f a b < 4294967296)
    (h : ∀ x y : Int, bits op .u32 x y = IntKind.u32.wrap (f (BitVec.ofInt 32 x).toNat (BitVec.ofInt 32 y).toNat : Nat)) (a b : Nat) (ha : a < 4294967296) (hb : b < 4294967296) :
    bits op .u32 (a : Int) (b : Int) = (f a b : Nat) := by
  have h1 : (BitVec.ofInt 32 (a : Int)).toNat = a := by
    rw [BitVec.ofInt_natCast, BitVec.toNat_ofNat]; exact Nat.mod_eq_of_lt (by omega)
  have h2 : (BitVec.ofInt 32 (b : Int)).toNat = b := by
    rw [BitVec.ofInt_natCast, BitVec.toNat_ofNat]; exact Nat.mod_eq_of_lt (by omega)
  rw [h, h1, h2, IntKind.wrap_u32]
  have := hf a b ha hb
  omega

theorem or_u32 (a b : Nat) (ha : a < 4294967296) (hb : b < 4294967296) : bits .or .u32 (a : Int) (b : Int) = ((a ||| b : Nat) : Int) :=
  nat_u32 .or (· ||| ·) (fun a b ha hb => Nat.or_lt_two_pow (n := 32) ha hb) (fun x y => by show IntKind.u32.wrap ((BitVec.ofInt 32 x ||| BitVec.ofInt 32 y).toNat : Int) = _; rw [BitVec.toNat_or]) a b ha hb
theorem xor_u32 (a b : Nat) (ha : a < 4294967296) (hb : b < 4294967296) : bits .xor .u32 (a : Int) (b : Int) = ((a ^^^ b : Nat) : Int) :=
  nat_u32 .xor (· ^^^ ·) (fun a b ha hb => Nat.xor_lt_two_pow (n := 32) ha hb) (fun x y => by show IntKind.u32.wrap ((BitVec.ofInt 32 x ^^^ BitVec.ofInt 32 y).toNat : Int) = _; rw [BitVec.toNat_xor]) a b ha hb
theorem and_u32 (a b : Nat) (ha : a < 4294967296) (hb : b < 4294967296) : bits .and .u32 (a : Int) (b : Int) = ((a &&& b : Nat) : Int) :=
  nat_u32 .and (· &&& ·) (fun a b ha hb => Nat.and_lt_two_pow (n := 32) _ hb) (fun x y => by show IntKind.u32.wrap ((BitVec.ofInt 32 x &&& BitVec.ofInt 32 y).toNat : Int) = _; rw [BitVec.toNat_and]) a b ha hb

/-- Bits put above lower ones. -/
theorem join_u32 (i x y : Nat) (hi : i ≤ 31) (hx : x % 2 ^ i = 0) (hx1 : x < 2147483648) (hy : y < 2 ^ i) : bits .or .u32 (x : Int) (y : Int) = ((x + y : Nat) : Int) := by
  have hp : 2 ^ i ≤ 2 ^ 31 := Nat.pow_le_pow_right (by decide) hi
  have hw : ∀ n : Int, 0 ≤ n → n < 2 ^ 31 → IntKind.u32.wrap n = n := fun n h0 h1 => by rw [IntKind.wrap_u32]; omega
  have h := bits_join .u32 31 (by decide) hw i (x : Int) (y : Int) (by omega) (by exact_mod_cast hx) (by omega) (by omega) (by exact_mod_cast hy) (by omega)
  rw [h]; omega

theorem and63 (n : Nat) (h : n < 4294967296) : bits .and .u32 (n : Int) 63 = (n : Int) % 64 := by
  have := and_u32 n 63 h (by decide)
  rw [show (63 : Nat) = 2 ^ 6 - 1 from rfl, Nat.and_two_pow_sub_one_eq_mod] at this
  rw [show (63 : Int) = ((2 ^ 6 - 1 : Nat) : Int) from rfl, this]
  omega

/-- 'and' of two numbers that are not negative, at int. -/
theorem and_i64 (a b : Nat) (ha : a < 9223372036854775808) (hb : b < 9223372036854775808) : bits .and .i64 (a : Int) (b : Int) = ((a &&& b : Nat) : Int) := by
  have h1 : (BitVec.ofInt 64 (a : Int)).toNat = a := by
    rw [BitVec.ofInt_natCast, BitVec.toNat_ofNat]; exact Nat.mod_eq_of_lt (by omega)
  have h2 : (BitVec.ofInt 64 (b : Int)).toNat = b := by
    rw [BitVec.ofInt_natCast, BitVec.toNat_ofNat]; exact Nat.mod_eq_of_lt (by omega)
  show IntKind.i64.wrap ((BitVec.ofInt 64 (a : Int) &&& BitVec.ofInt 64 (b : Int)).toNat : Int) = _
  have h3 : a &&& b ≤ a := Nat.and_le_left
  rw [BitVec.toNat_and, h1, h2, IntKind.wrap_i64]
  omega
theorem and1_i64 (n : Nat) (h : n < 9223372036854775808) : bits .and .i64 (n : Int) 1 = ((n % 2 : Nat) : Int) := by
  have := and_i64 n 1 h (by decide)
  rw [Nat.and_one_is_mod] at this
  exact this

/-- Two bytes are one where their exclusive or is nought. -/
theorem xor_eq_zero (a b : UInt8) : a ^^^ b = 0 ↔ a = b := UInt8.xor_eq_zero_iff
theorem or_eq_zero (a b : UInt8) : a ||| b = 0 ↔ a = 0 ∧ b = 0 := UInt8.or_eq_zero_iff

end Go.Proofs.YtmmmogccjopfeaaDoor.Bits
