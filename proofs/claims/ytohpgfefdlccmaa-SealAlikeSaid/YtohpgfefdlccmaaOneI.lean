/-
  A row of whole numbers that is known whole: eleven made, one read, one stored; OR of a bit that is not there. Conditions: in each statement.
-/
import Derived.Test.YtohpgfefdlccmaaKc
import Derived.Test.YtohpgfefdlccmaaKa
import Derived.WalkKit
import Derived.BigCall
import Derived.Lib.Hide
import Derived.Outline
import Derived.Deep.DeepMust
import Derived.RegionTactic
import Derived.ChangeAlike
import Derived.Deep.QuietTactic
import Derived.BigQuiet
import Derived.Laws.MakeOwn
import Derived.Laws.OwnMore
namespace Go.Proofs.Ytohpgfefdlccmaa.OneI
open Go.RowKit BytesW ArrW

theorem infoInt : (Try.prog.info? 3).map (fun i => (i.zero, i.size, i.bytes)) = some (some (.int .i64 0), 1, 8) := by kernel_rfl
/-- Numbers as cells. -/
def ic (l : List Nat) : List Value := l.map fun (n : Nat) => .int .i64 (n : Int)
theorem ic_len (l : List Nat) : (ic l).length = l.length := by simp [ic]
theorem ic_getD (l : List Nat) (k : Nat) (h : k < l.length) : (ic l)[k]? = some (.int .i64 ((l.getD k 0 : Nat) : Int)) := by
  rw [List.getD_eq_getElem?_getD, List.getElem?_eq_getElem h]
  simp [ic, List.getElem?_eq_getElem h]
theorem ic_set (l : List Nat) (k x : Nat) : (ic l).set k (.int .i64 (x : Int)) = ic (l.set k x) := by simp [ic, List.map_set]
theorem make11 (w : World) : (Instr.makeSlice 57 (.int .i64 11) (.int .i64 11)).run Try.prog w = .ok (.slice (some ⟨w.heap.size, 0, none⟩) 11 11) (w.alloc (.cells (ic (List.replicate 11 0)).toArray 3)) := by
  obtain ⟨i0, hi, hz0, hz1, hz2⟩ := info_parts infoInt
  have h := run_make (P := Try.prog) w 57 3 i0 (.int .i64 0) Try.underlying57 hi hz0 .i64 .i64 11 11 (by decide) (by decide) (by rw [hz2]; decide) (by decide)
  have e : madeCells (Value.int .i64 0).cells (Int.toNat 11 * 1) = (ic (List.replicate 11 0)).toArray := by
    apply Array.toList_inj.1
    rw [show (Value.int .i64 0).cells = #[Value.int .i64 0] from rfl, toList_madeCells_one]
    rfl
  rw [h, hz1, e]
  rfl
theorem and1_u8 (n : Nat) (h : n < 256) : bits .and .u8 (n : Int) 1 = ((n % 2 : Nat) : Int) := by
  have h1 := Bits.nat_u8 .and (· &&& ·) (fun a b ha _ => Nat.lt_of_le_of_lt Nat.and_le_left ha) (fun x y => by show IntKind.u8.wrap ((BitVec.ofInt 8 x &&& BitVec.ofInt 8 y).toNat : Int) = _; rw [BitVec.toNat_and]) n 1 h (by decide)
  rw [show (1 : Int) = ((1 : Nat) : Int) from rfl, h1, Nat.and_one_is_mod]
theorem or_i64 (a b : Nat) (ha : a < 2 ^ 62) (hb : b < 2 ^ 62) : bits .or .i64 (a : Int) (b : Int) = ((a ||| b : Nat) : Int) := by
  have h1 : (BitVec.ofInt 64 (a : Int)).toNat = a := by
    rw [BitVec.ofInt_natCast, BitVec.toNat_ofNat]; exact Nat.mod_eq_of_lt (by omega)
  have h2 : (BitVec.ofInt 64 (b : Int)).toNat = b := by
    rw [BitVec.ofInt_natCast, BitVec.toNat_ofNat]; exact Nat.mod_eq_of_lt (by omega)
  show IntKind.i64.wrap ((BitVec.ofInt 64 (a : Int) ||| BitVec.ofInt 64 (b : Int)).toNat : Int) = _
  have h3 : a ||| b < 2 ^ 62 := Nat.or_lt_two_pow ha hb
  rw [BitVec.toNat_or, h1, h2, IntKind.wrap_i64]
  omega
theorem or_bit (x i : Nat) (hx : x < 2 ^ i) (hi : i ≤ 12) : bits .or .i64 (x : Int) ((2 ^ i : Nat) : Int) = ((x + 2 ^ i : Nat) : Int) := by
  have h2 : 2 ^ i ≤ 4096 := by rw [show (4096 : Nat) = 2 ^ 12 by decide]; exact Nat.pow_le_pow_right (by decide) hi
  have h := or_i64 x (2 ^ i) (by omega) (by omega)
  rw [h]
  have h6 := Nat.two_pow_add_eq_or_of_lt hx 1
  rw [Nat.mul_one] at h6
  rw [Nat.or_comm, ← h6, Nat.add_comm]
end Go.Proofs.Ytohpgfefdlccmaa.OneI
