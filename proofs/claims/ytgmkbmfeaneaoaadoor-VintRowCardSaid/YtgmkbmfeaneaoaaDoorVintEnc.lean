/-
  vint.encode: what it hands back. Conditions: in the statement.
-/
import Derived.Test.YtgmkbmfeaneaoaaDoorVintLong
import Derived.Test.YtgmkbmfeaneaoaaDoorBits
import Derived.StillTailTactics
import Derived.RegionTactic
import Derived.Deep.QuietTactic
import Derived.BigQuiet
namespace Go.Proofs.YtgmkbmfeaneaoaaDoor.VintEncW
open Go.RowKit BytesW VintM VintLongW

theorem be_get (k n j : Nat) (h : j < k) (h' : j < (VecM.be k n).length) : (VecM.be k n)[j] = UInt8.ofNat (n / 256 ^ (k - 1 - j)) := by
  induction k generalizing j with
  | zero => omega
  | succ k ih =>
    have e := VecM.be_cons k n
    cases j with
    | zero => simp [e]
    | succ j =>
      have h2 : j < (VecM.be k n).length := by rw [VecM.be_length]; omega
      have := ih j (by omega) h2
      simp only [e, List.getElem_cons_succ, this]
      congr 3
      omega

/-- The row behind j rounds. -/
def stage (k n j : Nat) : List UInt8 := (VecM.be k n).take j ++ List.replicate (k - j) 0
theorem stage_length (k n j : Nat) (h : j ≤ k) : (stage k n j).length = k := by
  simp [stage, VecM.be_length]; omega
theorem stage_zero (k n : Nat) : stage k n 0 = List.replicate k 0 := by simp [stage]
theorem stage_all (k n : Nat) : stage k n k = VecM.be k n := by
  simp [stage]
  exact List.take_of_length_le (by rw [VecM.be_length]; exact Nat.le_refl _)
theorem stage_set (k n j : Nat) (h : j < k) : (stage k n j).set j (UInt8.ofNat (n / 256 ^ (k - 1 - j))) = stage k n (j + 1) := by
  have hl : ((VecM.be k n).take j).length = j := by rw [List.length_take, VecM.be_length]; omega
  unfold stage
  rw [List.set_append, if_neg (by omega), hl, Nat.sub_self, show k - j = (k - (j + 1)) + 1 from by omega, List.replicate_succ, List.set_cons_zero,
    List.take_succ_eq_append_getElem (by rw [VecM.be_length]; exact h), be_get k n j h]
  simp

theorem byte_shift (n m : Nat) : (n : Int) / 2 ^ (8 * m) % 256 = ((UInt8.ofNat (n / 256 ^ m)).toNat : Int) := by
  rw [UInt8.toNat_ofNat']
  have : ((2 : Int) ^ 8) ^ m = ((256 ^ m : Nat) : Int) := by simp
  rw [Int.pow_mul, this]
  omega

theorem head_or (q i : Nat) (hq : q < 64) (hi : i ≤ 3) : bits .or .u8 ((UInt8.ofNat q).toNat : Int) (wrap64 ((i : Int) * 64) % 256) = ((UInt8.ofNat (q + 64 * i)).toNat : Int) := by
  have h1 : wrap64 ((i : Int) * 64) % 256 = ((UInt8.ofNat (64 * i)).toNat : Int) := by
    rw [IntWalk.wrap64_in _ (by omega), UInt8.toNat_ofNat']
    omega
  have h2 : ∀ i, i < 4 → ∀ q, q < 64 → (UInt8.ofNat q ||| UInt8.ofNat (64 * i)) = UInt8.ofNat (q + 64 * i) := by decide +kernel
  rw [h1, Bits.or_u8, h2 i (by omega) q hq]

theorem head_set (n j : Nat) (hj : 1 ≤ j) : (VecM.be j n).set 0 (UInt8.ofNat (n / 256 ^ (j - 1) + 64 * ix j)) = enc n j := by
  obtain ⟨i, rfl⟩ : ∃ i, j = i + 1 := ⟨j - 1, by omega⟩
  rw [VecM.be_cons, List.set_cons_zero]
  rfl

set_option maxHeartbeats 4000000 in
set_option maxRecDepth 100000 in
theorem encode_any (n k : Nat) (hk : isK k) (_ : n < 4611686018427387904) (hf : n < 64 * 256 ^ (k - 1)) (w : World) (hT : Tab w) :
    Calls Tryd.prog 18 #[.int .i64 (n : Int), .int .i64 (k : Int)] w fun e w' => ∃ v', e = .returned v' ∧ Row w.heap.size w' v' (enc n k) ∧ Below w.heap.size w w' := by
  have hp := isK_pos hk
  obtain ⟨hp1, hp2⟩ := hp
  have hmk := makeN k (by omega)
  have hr0 := Row.madeN w.heap.size k w (Nat.le_refl _) (by unfold maxLen; omega)
  have hb0 := (Below.refl w.heap.size w).alloc (Nat.le_refl _) (.cells (madeCells #[.int .u8 0] k) 5)
  have hz := Lib.hid (stage_zero k n)
  have HK := Lib.hid hk
  have HF := Lib.hid hf
  have HT := Lib.hid hT
  clear hk hf hT
  go_enter Tryd.func18, Tryd.ntmps18
  go_wp2
  go_loopw [11] (fun i wr => ∃ (j : Nat), j ≤ k ∧ i = .int .i64 j ∧ Row w.heap.size wr (.slice (some ⟨w.heap.size, 0, none⟩) k k) (stage k n j) ∧ Below w.heap.size w wr) (fun i _ => k - (intOf i).toNat)
  case atStart => exact ⟨0, Nat.zero_le _, rfl, by rw [hz.out]; exact hr0, hb0⟩
  case round =>
    clear hr0 hb0 hmk
    obtain ⟨j, hj, rfl, hrow, hb⟩ := hrel
    by_cases hlt : j < k
    · obtain ⟨hc, hfz⟩ := hrow.at2 j (by rw [stage_length k n j hj]; exact hlt)
      have HS := Lib.hid (hrow.set2 (stage_length k n j hj) j _ _ (byte_shift n (k - 1 - j)) (stage_set k n j hlt))
      clear hrow
      generalize (stage k n j)[j]'_ = x at *
      go_wp2
      go_roundw
      case rel => exact ⟨j + 1, by omega, by go_num, HS.out, hb.setCell (Nat.le_refl _) _⟩
      case measure => simp [intOf]; omega
    · obtain rfl : j = k := by omega
      rw [stage_all] at hrow
      obtain ⟨hc, hfz⟩ := hrow.at2 0 (by rw [VecM.be_length]; omega)
      have hT' := HT.out.below hb
      have g0 : 0 < j := by omega
      have HG := Lib.hid (be_get j n 0 g0 (by rw [VecM.be_length]; exact g0))
      have e1 : IntKind.u64.wrap (j : Int) = (j : Int) := IntWalk.u64_in _ (by omega)
      go_wp2
      go_still_tail 10, (by kernel_rfl)
      still_call ((tz j HK.out _ hT'.drew).mono fun e w' h => ⟨h.1, h.2.symm⟩)
      repeat still_step
      refine wpStill_nil ?_
      change wpList _ _ _ _ _ wr.drew
      go_wp2
      go_ret
      refine ⟨_, rfl, ?_, ?_⟩
      · refine Row.set2 hrow.drew (VecM.be_length _ _) 0 (UInt8.ofNat (n / 256 ^ (j - 1) + 64 * ix j)) _ ?_ ?_
        · rw [HG.out]
          exact head_or _ _ (head_lt HF.out) (ix_le j)
        · exact head_set n j hp1
      · exact (hb.setCell (Nat.le_refl _) _).drew
end Go.Proofs.YtgmkbmfeaneaoaaDoor.VintEncW
