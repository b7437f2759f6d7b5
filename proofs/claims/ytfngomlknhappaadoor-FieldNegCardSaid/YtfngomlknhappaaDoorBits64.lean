/-
  Bitwise operations of the model on uint64 as Lean's own; no program is named here. Conditions: in each statement.
-/
import Derived.Test.YtfngomlknhappaaDoorKa
import Derived.WalkKit
namespace Go.Proofs.YtfngomlknhappaaDoor.Bits

theorem nat_u64 (op : BinOp) (f : Nat → Nat → Nat) (hf : ∀ a b, a < 18446744073709551616 → b < 18446744073709551616 → f a b < 18446744073709551616)
    (h : ∀ x y : Int, bits op .u64 x y = IntKind.u64.wrap (f (BitVec.ofInt 64 x).toNat (BitVec.ofInt 64 y).toNat : Nat)) (a b : Nat) (ha : a < 18446744073709551616) (hb : b < 18446744073709551616) :
    bits op .u64 (a : Int) (b : Int) = (f a b : Nat) := by
  have h1 : (BitVec.ofInt 64 (a : Int)).toNat = a := by
    rw [BitVec.ofInt_natCast, BitVec.toNat_ofNat]; exact Nat.mod_eq_of_lt (by omega)
  have h2 : (BitVec.ofInt 64 (b : Int)).toNat = b := by
    rw [BitVec.ofInt_natCast, BitVec.toNat_ofNat]; exact Nat.mod_eq_of_lt (by omega)
  rw [h, h1, h2]
  exact IntWalk.u64_in _ (by have := hf a b ha hb; omega)
theorem or_u64 (a b : Nat) (ha : a < 18446744073709551616) (hb : b < 18446744073709551616) : bits .or .u64 (a : Int) (b : Int) = ((a ||| b : Nat) : Int) :=
  nat_u64 .or (· ||| ·) (fun a b ha hb => Nat.or_lt_two_pow (n := 64) ha hb) (fun x y => by show IntKind.u64.wrap ((BitVec.ofInt 64 x ||| BitVec.ofInt 64 y).toNat : Int) = _; rw [BitVec.toNat_or]) a b ha hb
theorem xor_u64 (a b : Nat) (ha : a < 18446744073709551616) (hb : b < 18446744073709551616) : bits .xor .u64 (a : Int) (b : Int) = ((a ^^^ b : Nat) : Int) :=
  nat_u64 .xor (· ^^^ ·) (fun a b ha hb => Nat.xor_lt_two_pow (n := 64) ha hb) (fun x y => by show IntKind.u64.wrap ((BitVec.ofInt 64 x ^^^ BitVec.ofInt 64 y).toNat : Int) = _; rw [BitVec.toNat_xor]) a b ha hb
theorem and_u64 (a b : Nat) (ha : a < 18446744073709551616) (hb : b < 18446744073709551616) : bits .and .u64 (a : Int) (b : Int) = ((a &&& b : Nat) : Int) :=
  nat_u64 .and (· &&& ·) (fun a b ha hb => Nat.and_lt_two_pow (n := 64) _ hb) (fun x y => by show IntKind.u64.wrap ((BitVec.ofInt 64 x &&& BitVec.ofInt 64 y).toNat : Int) = _; rw [BitVec.toNat_and]) a b ha hb
end Go.Proofs.YtfngomlknhappaaDoor.Bits
