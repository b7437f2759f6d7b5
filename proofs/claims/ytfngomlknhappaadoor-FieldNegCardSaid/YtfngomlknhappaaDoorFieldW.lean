/-
  Rows of uint64 as cells; math/bits.Add64, Sub64, Mul64 and field.multiplyAdd: what they hand back. Conditions: in each statement.
-/
import Derived.Test.YtfngomlknhappaaDoorFieldN
import Derived.Test.YtfngomlknhappaaDoorFieldT
import Derived.Test.YtfngomlknhappaaDoorKc
import Derived.Test.YtfngomlknhappaaDoorKa
import Derived.Test.YtfngomlknhappaaDoorBits64
import Derived.WalkKit
import Derived.BigCall
import Derived.Lib.Hide
import Derived.Outline
import Derived.Deep.DeepMust
import Derived.RegionTactic
import Derived.ChangeAlike
import Derived.Deep.QuietTactic
import Derived.BigQuiet
import Derived.Laws.MakeOwn
import Derived.Laws.OwnMore
import Derived.Lib.Mul64
import Derived.Laws.Externs
namespace Go.Proofs.YtfngomlknhappaaDoor.FieldWW
open Go.RowKit BytesW ArrW ArrG ArrL FieldM NumA NumF FieldN

/-- Words as cells. -/
def nc (l : List Nat) : List Value := l.map fun (n : Nat) => .int .u64 (n : Int)
theorem nc_len (l : List Nat) : (nc l).length = l.length := by simp [nc]
theorem nc_getD (l : List Nat) (k : Nat) (h : k < l.length) : (nc l)[k]? = some (.int .u64 ((l.getD k 0 : Nat) : Int)) := by
  rw [List.getD_eq_getElem?_getD, List.getElem?_eq_getElem h]
  simp [nc, List.getElem?_eq_getElem h]
theorem nc_set (l : List Nat) (k x : Nat) : (nc l).set k (.int .u64 (x : Int)) = nc (l.set k x) := by simp [nc, List.map_set]
theorem nc_one (l : List Nat) : ∀ v ∈ nc l, v.oneCell' = true := by
  intro v hv
  simp only [nc, List.mem_map] at hv
  obtain ⟨x, _, rfl⟩ := hv
  rfl
theorem wnum_u : Tryd.prog.underlying 46 = some (.array 4 44) := by kernel_rfl
theorem wnum_size : (Tryd.prog.info? 46).map (·.size) = some 4 := by kernel_rfl
theorem pro_u : Tryd.prog.underlying 68 = some (.array 8 44) := by kernel_rfl
theorem pro_size : (Tryd.prog.info? 68).map (·.size) = some 8 := by kernel_rfl
theorem wd4 (v : Nat) : (nc (wd v 4)).length = 4 := by rw [nc_len, wd_len]
theorem wd8 (v : Nat) : (nc (wd v 8)).length = 8 := by rw [nc_len, wd_len]
theorem build1 (a : Int) (w : World) : (Instr.build 46 #[(0, .int .u64 a)]).run Tryd.prog w = .ok (.agg #[.int .u64 a, .int .u64 0, .int .u64 0, .int .u64 0]) w := by kernel_rfl
theorem build4 (a b c d : Int) (w : World) : (Instr.build 46 #[(0, .int .u64 a), (1, .int .u64 b), (2, .int .u64 c), (3, .int .u64 d)]).run Tryd.prog w = .ok (.agg #[.int .u64 a, .int .u64 b, .int .u64 c, .int .u64 d]) w := by kernel_rfl
theorem nc4 (a b c d : Nat) : (nc [a, b, c, d]).toArray = #[.int .u64 (a : Int), .int .u64 (b : Int), .int .u64 (c : Int), .int .u64 (d : Int)] := rfl

/-- math/bits.Add64: its carry 0 or 1. -/
theorem add64_n (x y c : Nat) (hc : c ≤ 1) (w : World) : (callFunc 50 #[.int .u64 (x : Int), .int .u64 (y : Int), .int .u64 (c : Int)]).run Tryd.prog w =
    .ok (.value (.tuple #[.int .u64 (((x + y + c) % 18446744073709551616 : Nat) : Int), .int .u64 (((x + y + c) / 18446744073709551616 : Nat) : Int)])) w := by
  rw [run_callFunc_extern Tryd.func50 (by kernel_rfl) (by kernel_rfl) (by kernel_rfl) (e := add64Entry) (by kernel_rfl), run_add64 x y c (by omega) (by omega) (by omega) (by omega)]
  simp only [Result.andThen]
  congr 5 <;> omega
theorem add64_0 (x y : Nat) (w : World) : (callFunc 50 #[.int .u64 (x : Int), .int .u64 (y : Int), .int .u64 0]).run Tryd.prog w =
    .ok (.value (.tuple #[.int .u64 (((x + y) % 18446744073709551616 : Nat) : Int), .int .u64 (((x + y) / 18446744073709551616 : Nat) : Int)])) w := add64_n x y 0 (by decide) w

/-- math/bits.Sub64: its borrow 0 or 1. -/
def sub64Entry : Array Value → Sem Value := fun args => do
  let (x, y, b) ← Extern.MathBitsCarry.three "Sub64" args
  pure (Extern.MathBitsCarry.pair ((x + Extern.MathBitsCarry.m64 - y - b) % Extern.MathBitsCarry.m64) (if x < y + b then 1 else 0))
theorem run_sub64 (x y c : Nat) (hc : c ≤ 1) (w : World) :
    (sub64Entry #[.int .u64 (x : Int), .int .u64 (y : Int), .int .u64 (c : Int)]).run Tryd.prog w =
      .ok (.tuple #[.int .u64 (((x + 18446744073709551616 - y - c) % 18446744073709551616 : Nat) : Int), .int .u64 (((if x < y + c then 1 else 0 : Nat) : Nat) : Int)]) w := by
  have : c = 0 ∨ c = 1 := by omega
  rcases this with rfl | rfl <;> rfl
theorem sub64_n (x y c : Nat) (hc : c ≤ 1) (w : World) : (callFunc 61 #[.int .u64 (x : Int), .int .u64 (y : Int), .int .u64 (c : Int)]).run Tryd.prog w =
    .ok (.value (.tuple #[.int .u64 (((x + 18446744073709551616 - y - c) % 18446744073709551616 : Nat) : Int), .int .u64 (((if x < y + c then 1 else 0 : Nat) : Nat) : Int)])) w := by
  rw [run_callFunc_extern Tryd.func61 (by kernel_rfl) (by kernel_rfl) (by kernel_rfl) (e := sub64Entry) (by kernel_rfl), run_sub64 x y c hc]
  rfl

theorem maskN (a : Nat) (ha : a < 18446744073709551616) : bits .and .u64 (a : Int) 4294967295 = ((a % 4294967296 : Nat) : Int) := by
  have h := Bits.and_u64 a 4294967295 ha (by decide)
  rw [show (4294967295 : Nat) = 2 ^ 32 - 1 from rfl, Nat.and_two_pow_sub_one_eq_mod] at h
  exact h
theorem divN (a : Nat) : (a : Int) / 4294967296 = ((a / 4294967296 : Nat) : Int) := by omega
theorem mulN (a b : Nat) : (a : Int) * (b : Int) = ((a * b : Nat) : Int) := (Int.natCast_mul a b).symm
theorem addN (a b : Nat) : (a : Int) + (b : Int) = ((a + b : Nat) : Int) := (Int.natCast_add a b).symm
theorem wrapN (a : Nat) (ha : a < 18446744073709551616) : IntKind.u64.wrap (a : Int) = (a : Int) := by rw [IntKind.wrap_u64]; omega
theorem wrapM (a : Nat) : IntKind.u64.wrap (a : Int) = ((a % 18446744073709551616 : Nat) : Int) := by rw [IntKind.wrap_u64]; omega

set_option maxHeartbeats 1000000 in
theorem mul64_any (x y : Nat) (hx : x < 18446744073709551616) (hy : y < 18446744073709551616) (w : World) :
    Calls Tryd.prog 65 #[.int .u64 (x : Int), .int .u64 (y : Int)] w fun e w' => e = .returned (.tuple #[.int .u64 ((x * y / 18446744073709551616 : Nat) : Int), .int .u64 ((x * y % 18446744073709551616 : Nat) : Int)]) ∧ w = w' := by
  obtain ⟨bd, bt, bw, hhi⟩ := Lib.mul64_hi x y hx hy
  have ba := Lib.half_mul_le (a := x / 4294967296) (b := y / 4294967296) (by omega) (by omega)
  have bb := Lib.half_mul_le (a := x / 4294967296) (b := y % 4294967296) (by omega) (by omega)
  have bc := Lib.half_mul_le (a := x % 4294967296) (b := y / 4294967296) (by omega) (by omega)
  have ba' : x / 4294967296 * (y / 4294967296) < 18446744073709551616 := by omega
  have bb' : x / 4294967296 * (y % 4294967296) < 18446744073709551616 := by omega
  have bc' : x % 4294967296 * (y / 4294967296) < 18446744073709551616 := by omega
  have bh1 : x / 4294967296 * (y / 4294967296) + (x / 4294967296 * (y % 4294967296) + x % 4294967296 * (y % 4294967296) / 4294967296) / 4294967296 < 18446744073709551616 := by omega
  have bh : x / 4294967296 * (y / 4294967296) + (x / 4294967296 * (y % 4294967296) + x % 4294967296 * (y % 4294967296) / 4294967296) / 4294967296 + ((x / 4294967296 * (y % 4294967296) + x % 4294967296 * (y % 4294967296) / 4294967296) % 4294967296 + x % 4294967296 * (y / 4294967296)) / 4294967296 < 18446744073709551616 := by omega
  go_enter Tryd.func65, Tryd.ntmps65
  go_wp2
  simp only [maskN x hx, maskN y hy, divN, mulN, addN, wrapN _ bd, wrapN _ bb', wrapN _ bt, maskN _ bt, wrapN _ bc', wrapN _ bw, wrapN _ ba', wrapN _ bh1, wrapN _ bh, wrapM (x * y)]
  rw [hhi]
  go_ret2
  exact ⟨rfl, rfl⟩

set_option maxHeartbeats 1000000 in
theorem mulAdd_any (a b c d : Nat) (ha : a < 18446744073709551616) (hb : b < 18446744073709551616) (hc : c < 18446744073709551616) (hd : d < 18446744073709551616) (w : World) :
    Calls Tryd.prog 62 #[.int .u64 (a : Int), .int .u64 (b : Int), .int .u64 (c : Int), .int .u64 (d : Int)] w fun e w' => e = .returned (.tuple #[.int .u64 (((a * b + c + d) % 18446744073709551616 : Nat) : Int), .int .u64 (((a * b + c + d) / 18446744073709551616 : Nat) : Int)]) ∧ w = w' := by
  have HM := Lib.hid (mul64_any a b ha hb w)
  have hi : a * b / 18446744073709551616 ≤ 18446744073709551614 := by
    have h1 : a * b ≤ 18446744073709551615 * 18446744073709551615 := Nat.mul_le_mul (by omega) (by omega)
    omega
  have ht := two_words a b c d _ ha hb hc hd
  obtain ⟨t, htt⟩ : ∃ t, a * b = t := ⟨_, rfl⟩
  rw [htt] at HM hi ht ⊢
  obtain ⟨h, hh⟩ : ∃ h, t / 18446744073709551616 = h := ⟨_, rfl⟩
  obtain ⟨l, hl⟩ : ∃ l, t % 18446744073709551616 = l := ⟨_, rfl⟩
  rw [hh, hl] at HM
  rw [hh] at hi
  obtain ⟨l1, hl1⟩ : ∃ z, (l + c) % 18446744073709551616 = z := ⟨_, rfl⟩
  obtain ⟨k1, hk1⟩ : ∃ z, (l + c) / 18446744073709551616 = z := ⟨_, rfl⟩
  obtain ⟨l2, hl2⟩ : ∃ z, (l1 + d) % 18446744073709551616 = z := ⟨_, rfl⟩
  obtain ⟨k2, hk2⟩ : ∃ z, (l1 + d) / 18446744073709551616 = z := ⟨_, rfl⟩
  have e1 := fun w => add64_0 l c w
  have e2 := fun w => add64_0 l1 d w
  rw [hl1, hk1] at e1
  rw [hl2, hk2] at e2
  obtain ⟨u, hu⟩ : ∃ u, h + k1 = u := ⟨_, rfl⟩
  obtain ⟨v, hv⟩ : ∃ v, u + k2 = v := ⟨_, rfl⟩
  have f1 : IntKind.u64.wrap ((h : Int) + (k1 : Int)) = (u : Int) := by rw [IntKind.wrap_u64]; omega
  have f2 : IntKind.u64.wrap ((u : Int) + (k2 : Int)) = (v : Int) := by rw [IntKind.wrap_u64]; omega
  have r1 : (t + c + d) % 18446744073709551616 = l2 := by omega
  have r2 : (t + c + d) / 18446744073709551616 = v := by omega
  rw [r1, r2]
  clear r1 r2 hh hl hl1 hk1 hl2 hk2 hu hv hi ht htt ha hb hc hd
  go_enter Tryd.func62, Tryd.ntmps62
  go_wp2_with fail
  refine HM.out.mono ?_
  clear HM
  rintro e w' ⟨rfl, rfl⟩
  go_wp2
  go_ret2
  exact ⟨rfl, rfl⟩
end Go.Proofs.YtfngomlknhappaaDoor.FieldWW
