/-
  Words and bytes as a variable's cells; math/bits.RotateLeft32 by a count from 1 to 31. Conditions: in each statement.
-/
import Derived.Test.YthofghfbnlieeaaStreamStep
namespace Go.Proofs.Ythofghfbnlieeaa.StreamWW
open Go.RowKit BytesW CellsW WordsW ArrW HashM HashTurnW StreamM StreamStepW

theorem wc_one (l : List Nat) : ∀ v ∈ wc l, v.oneCell' = true := by
  intro v hv
  simp only [wc, List.mem_map] at hv
  obtain ⟨x, _, rfl⟩ := hv
  rfl
theorem wc_getD (S : List Nat) (k : Nat) (h : k < S.length) : (wc S)[k]? = some (.int .u32 ((S.getD k 0 : Nat) : Int)) := by
  unfold wc
  rw [List.getElem?_map, List.getElem?_eq_getElem h]
  simp [List.getD_eq_getElem?_getD, List.getElem?_eq_getElem h]
theorem wc_set (S : List Nat) (k x : Nat) : (wc S).set k (.int .u32 (x : Int)) = wc (S.set k x) := by unfold wc; rw [List.map_set]
theorem bs_getD (L : List UInt8) (k : Nat) (h : k < L.length) : (Lib.byteCells L)[k]? = some (.int .u8 ((L.getD k 0).toNat : Int)) := by
  unfold Lib.byteCells
  rw [List.getElem?_map, List.getElem?_eq_getElem h]
  simp [List.getD_eq_getElem?_getD, List.getElem?_eq_getElem h]
theorem bs_set (L : List UInt8) (k : Nat) (x : UInt8) : (Lib.byteCells L).set k (.int .u8 (x.toNat : Int)) = Lib.byteCells (L.set k x) := by simp [Lib.byteCells, List.map_set]

theorem low (n : Nat) (h2 : n ≤ 31) : bits .and .u64 (n : Int) 31 = (n : Int) := by
  have h : ∀ m : Fin 32, bits .and .u64 (m.val : Int) 31 = (m.val : Int) := by decide +kernel
  exact h ⟨n, by omega⟩

set_option maxHeartbeats 1000000 in
theorem left_any (n x : Nat) (h1n : 1 ≤ n) (hn : n ≤ 31) (hx : x < 4294967296) (m : Int) (hm : m = (n : Int)) (w : World) :
    Calls Try.prog 26 #[.int .u32 (x : Int), .int .i64 m] w fun e w' => e = .returned (.int .u32 (rotl n x : Int)) ∧ w = w' := by
  subst hm
  have e0 := low n hn
  have e2 : IntKind.u64.wrap (n : Int) = (n : Int) := by rw [IntKind.wrap_u64]; omega
  have e1 : IntKind.u64.wrap (32 - (n : Int)) = ((32 - n : Nat) : Int) := by rw [IntKind.wrap_u64]; omega
  have HT := Lib.hid (rotl_or n x h1n hn hx)
  obtain ⟨s, hs⟩ : ∃ s, 32 - n = s := ⟨_, rfl⟩
  rw [hs] at e1 HT
  have hs64 : s ≤ 31 := by omega
  clear hs
  go_enter Try.func26, Try.ntmps26
  go_wp2
  go_ret
  refine ⟨?_, rfl⟩
  rw [← HT.out]
  rfl
end Go.Proofs.Ythofghfbnlieeaa.StreamWW
