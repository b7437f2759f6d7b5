/-
  slices.Repeat of one byte, up to 64 times; math/bits.Mul at 1 and so many. Conditions: in each statement.
-/
import Derived.Test.YtnlhcogmccladaaDoorKb
import Derived.Test.YtnlhcogmccladaaDoorKc
import Derived.Test.YtnlhcogmccladaaDoorHashTurnM
import Derived.Deep.DeepCutAuto
namespace Go.Proofs.YtnlhcogmccladaaDoor.SRepeatW
open Go.RowKit BytesW CellsW ArrW ArrG

set_option maxHeartbeats 1000000 in
theorem mul64_n (N : Nat) (hN : N ≤ 64) (w : World) : Calls Tryd.prog 43 #[.int .u64 1, .int .u64 (N : Int)] w fun e w' => e = .returned (.tuple #[.int .u64 0, .int .u64 (N : Int)]) ∧ w = w' := by
  have f1 : bits .and .u64 1 4294967295 = 1 := by decide
  have f2 : bits .and .u64 (N : Int) 4294967295 = (N : Int) := by
    have h : ∀ m : Fin 65, bits .and .u64 (m.val : Int) 4294967295 = (m.val : Int) := by decide +kernel
    exact h ⟨N, by omega⟩
  have f3 : bits .and .u64 0 4294967295 = 0 := by decide
  have f4 : (N : Int) / 4294967296 = 0 := by omega
  have f5 : IntKind.u64.wrap (N : Int) = (N : Int) := by rw [IntKind.wrap_u64]; omega
  go_enter Tryd.func43, Tryd.ntmps43
  go_wp2
  go_ret2
  exact ⟨rfl, rfl⟩
set_option maxHeartbeats 1000000 in
theorem mul_n (N : Nat) (hN : N ≤ 64) (w : World) : Calls Tryd.prog 34 #[.int .u64 1, .int .u64 (N : Int)] w fun e w' => e = .returned (.tuple #[.int .u64 0, .int .u64 (N : Int)]) ∧ w = w' := by
  go_enter Tryd.func34, Tryd.ntmps34
  go_wp2_with fail
  refine (mul64_n N hN w).mono ?_
  rintro _ _ ⟨rfl, rfl⟩
  go_wp2
  go_ret2
  exact ⟨rfl, rfl⟩

/-- k bytes laid. -/
def part (N : Nat) (x : UInt8) (k : Nat) : List UInt8 := List.replicate k x ++ List.replicate (N - k) 0
theorem part_more (N : Nat) (x : UInt8) (k n : Nat) (h : k + n ≤ N) : (Lib.byteCells (part N x k)).take k ++ (Lib.byteCells (List.replicate n x) ++ (Lib.byteCells (part N x k)).drop (k + n)) = Lib.byteCells (part N x (k + n)) := by
  unfold part Lib.byteCells
  rw [← List.map_take, ← List.map_drop, ← List.map_append, ← List.map_append]
  congr 1
  rw [List.take_append_of_le_length (by simp), List.take_of_length_le (by simp), List.drop_append, List.drop_of_length_le (by simp), List.nil_append, List.drop_replicate, List.length_replicate,
    ← List.append_assoc, List.replicate_append_replicate]
  congr 2
  omega
theorem part_len (N : Nat) (x : UInt8) (k : Nat) (h : k ≤ N) : (Lib.byteCells (part N x k)).length = N := by simp [part, Lib.byteCells]; omega

set_option maxHeartbeats 4000000 in
set_option maxRecDepth 100000 in
theorem repeat_n (N : Nat) (h1N : 1 ≤ N) (hN : N ≤ 64) (A : Option Addr) (x : UInt8) (c : Nat) (w : World) (hA : Bs w w.heap.size A [x]) :
    Calls Tryd.prog 25 #[.slice A 1 c, .int .i64 (N : Int)] w fun e w' => ∃ A', e = .returned (.slice A' N N) ∧ Bs w' w'.heap.size A' (List.replicate N x) ∧ Below w.heap.size w w' := by
  have HA := Lib.hid hA
  clear hA
  go_enter Tryd.func25, Tryd.ntmps25
  go_wp2_with fail
  refine (mul_n N hN w).mono ?_
  rintro _ _ ⟨rfl, rfl⟩
  have hmk : (Instr.makeSlice 22 (.int .i64 (N : Int)) (.int .i64 (N : Int))).run Tryd.prog w = .ok (.slice (some ⟨w.heap.size, 0, none⟩) N N) (w.alloc (.cells (madeCells #[.int .u8 0] N) 5)) := makeN N (by omega) w
  have hmc : madeCells #[.int .u8 0] N = (Lib.byteCells (part N x 0)).toArray := by
    apply Array.toList_inj.1
    rw [toList_madeCells_one]
    simp [part, Lib.byteCells]
  rw [hmc] at hmk
  obtain ⟨W, hW⟩ : ∃ W, w.alloc (.cells (Lib.byteCells (part N x 0)).toArray 5) = W := ⟨_, rfl⟩
  rw [hW] at hmk
  have a0 : Arr W w.heap.size 5 (Lib.byteCells (part N x 0)) := by rw [← hW]; exact Arr.new w _ _
  have b0 : Below w.heap.size w W := by rw [← hW]; exact (Below.refl w.heap.size w).alloc (Nat.le_refl _) _
  have A0 := Lib.hid a0
  have B0 := Lib.hid b0
  clear hmc hW a0 b0
  go_upto_region 7 with (fail)
  clear hmk
  obtain ⟨ad, rfl, hadb, hadc⟩ := HA.out (by simp)
  have hsrc : ∀ (j : Nat) (v : Value), (Lib.byteCells [x])[j]? = some v → W.cell? (ad.add j) = some v := by
    intro j v hv
    match j, hv with
    | 0, hv =>
      have h := (B0.out.cell (p := ad.add 0) (by rw [add_block]; exact hadb)).trans (hadc 0 (by simp))
      rw [h]
      exact hv
    | j + 1, hv => exact absurd hv (by simp [Lib.byteCells])
  go_upto_region 8 with (refine copyL rfl (.tmp 31) (.tmp 32) 22 22 rfl 5 Tryd.underlying22 (by kernel_rfl) w.heap.size 0 N N ad 1 c rfl rfl (Lib.byteCells (part N x 0)) 5 A0.out (Lib.byteCells [x]) (by rw [show (Lib.byteCells [x]).length = 1 from rfl]; exact (Nat.min_eq_left h1N).symm) hsrc (by rw [part_len N x 0 (by omega)]; simp [Lib.byteCells]; omega) (bytes_one _) 1 (Lib.byteCells (part N x 1)) rfl (part_more N x 0 1 (by omega)) ?_)
  have hA1 := A0.out.row (Lib.byteCells (part N x 1))
  have hB1 := below_row B0.out (Nat.le_refl _) (Lib.byteCells (part N x 1)).toArray
  obtain ⟨W1, hW1⟩ : ∃ W1, W.setRow w.heap.size (Lib.byteCells (part N x 1)).toArray = W1 := ⟨_, rfl⟩
  rw [hW1] at hA1 hB1 ⊢
  have A1 := Lib.hid hA1
  have B1 := Lib.hid hB1
  obtain ⟨g, hg⟩ : ∃ g, w.heap.size = g := ⟨_, rfl⟩
  have Hg := Lib.hid hg
  rw [hg] at A1 ⊢
  clear hA1 hB1 hW1 hsrc hadb hadc hg A0 B0
  go_wp2
  go_loopw [8] (fun v wr => ∃ k : Nat, 1 ≤ k ∧ k ≤ N ∧ v = .int .i64 (k : Int) ∧ Arr wr g 5 (Lib.byteCells (part N x k)) ∧ W1.grownBy wr (some g)) (fun v _ => N - (intOf v).toNat)
  case atStart => exact ⟨1, by omega, by omega, rfl, A1.out, grownRefl _ _⟩
  case round =>
    obtain ⟨k, hk1, hk2, rfl, a, hgr⟩ := hrel
    have Ak := Lib.hid a
    have Gk := Lib.hid hgr
    clear a hgr
    by_cases hlt : k < N
    · have ct : decide ((k : Int) < (N : Int)) = true := decide_eq_true (by omega)
      have k1 : (k : Int) ≤ (N : Int) := by omega
      obtain ⟨n, hn, hn1, hn2, hn3⟩ : ∃ n, Nat.min k (N - k) = n ∧ 1 ≤ n ∧ k + n ≤ N ∧ n ≤ k := by
        refine ⟨min k (N - k), rfl, ?_, ?_, ?_⟩ <;> omega
      have hbl : (Lib.byteCells (List.replicate n x)).length = n := by simp [Lib.byteCells]
      have hsrc : ∀ (j : Nat) (v : Value), (Lib.byteCells (List.replicate n x))[j]? = some v → wr.drew.cell? ((⟨g, 0, none⟩ : Addr).add j) = some v := by
        intro j v hv
        have hj : j < n := by rw [← hbl]; exact (List.getElem?_eq_some_iff.1 hv).1
        have e : (⟨g, 0, none⟩ : Addr).add j = ⟨g, j, none⟩ := by unfold Addr.add; split <;> simp_all
        rw [e, Arr.cell Ak.out.drew, ← hv]
        unfold part Lib.byteCells
        rw [List.getElem?_map, List.getElem?_map, List.getElem?_append_left (by simp; omega), List.getElem?_replicate, List.getElem?_replicate, if_pos (by omega), if_pos hj]
      have x1 : IntKind.i64.wrap ((k : Int) + (n : Int)) = ((k + n : Nat) : Int) := by rw [IntWalk.i64_in _ (by omega)]; omega
      go_upto_region 9 with (fail)
      refine Phase.wp_region_phases [([0], [1, 2, 3, 4, 5, 6], some 7), ([8, 9], [], none)] (fun W => W = wr.drew) (by kernel_rfl) (by kernel_rfl) (fun _ _ d _ _ h => by cases d <;> exact h) rfl ?_
      refine Phase.g_alone rfl ?_
      refine Phase.p_step rfl (fun K hK => ?_)
      go_simp
      refine hK _ ?_
      clear hK K
      refine Phase.p_nil ?_
      iterate 2 (refine Phase.q_step rfl (fun K hK => ?_); go_simp; refine hK _ ?_; clear hK K)
      refine Phase.q_step rfl (fun K hK => ?_)
      go_simp
      rw [if_neg (show ¬ N = k by omega)]
      refine hK _ ?_
      clear hK K
      iterate 2 (refine Phase.q_step rfl (fun K hK => ?_); go_simp; refine hK _ ?_; clear hK K)
      refine Phase.q_step rfl (fun K hK => ?_)
      go_simp
      refine hK _ ?_
      clear hK K
      refine Phase.q_nil ?_
      rintro _ rfl K hK
      refine want rfl ?_
      refine copyO (.tmp 41) (.tmp 44) 22 22 rfl 5 Tryd.underlying22 (by kernel_rfl) g k (N - k) (N - k) ⟨g, 0, none⟩ k N rfl rfl (Lib.byteCells (part N x k)) 5 Ak.out.drew (Lib.byteCells (List.replicate n x)) (by rw [hbl]; exact hn.symm) hsrc (by rw [hbl, part_len N x k hk2]; exact hn2) (bytes_one _) ?_
      rw [hbl, part_more N x k n hn2]
      have A2 := Lib.hid ((Ak.out.drew).row (Lib.byteCells (part N x (k + n))))
      have G2 := Lib.hid (grownTrans Gk.out (grownTrans (grownDrew wr (some g)) (grown_row wr.drew g (Lib.byteCells (part N x (k + n))).toArray)))
      obtain ⟨w5, hw5⟩ : ∃ w5, wr.drew.setRow g (Lib.byteCells (part N x (k + n))).toArray = w5 := ⟨_, rfl⟩
      rw [hw5] at A2 G2 ⊢
      refine hK _ _ ⟨fun W => W = w5, rfl, ?_⟩
      clear hK K hw5 hsrc hbl
      refine Phase.g_quiet ?_
      refine Phase.p_step rfl (fun K hK => ?_)
      go_simp
      refine hK _ ?_
      clear hK K
      refine Phase.p_step rfl (fun K hK => ?_)
      go_simp
      refine hK _ ?_
      clear hK K
      refine Phase.p_nil (Phase.q_nil (Phase.g_nil ?_))
      intro wz hz
      rw [show wz = w5 from hz]
      clear hz
      go_wp2
      go_roundw
      case rel => exact ⟨k + n, by omega, hn2, by first | rfl | go_num, A2.out, G2.out⟩
      case measure => simp [intOf]; omega
    · obtain rfl : N = k := by omega
      have ct : decide ((N : Int) < (N : Int)) = false := decide_eq_false (by omega)
      have hb := B1.out.trans (grownBelow Gk.out (by have := Hg.out; omega) B1.out.size)
      have HBs : Bs wr wr.heap.size (some ⟨g, 0, none⟩) (List.replicate N x) := by
        intro _
        refine ⟨_, rfl, Ak.out.lt, fun j hj => ?_⟩
        have e : (⟨g, 0, none⟩ : Addr).add j = ⟨g, j, none⟩ := by unfold Addr.add; split <;> simp_all
        rw [e, Ak.out.cell]
        unfold part Lib.byteCells
        rw [List.getElem?_map, List.getElem?_append_left hj, List.getElem?_eq_getElem hj]
        rfl
      go_wp2
      go_ret
      exact ⟨_, rfl, HBs, hb⟩
theorem repeat_20 (A : Option Addr) (x : UInt8) (c : Nat) (w : World) (hA : Bs w w.heap.size A [x]) :
    Calls Tryd.prog 25 #[.slice A 1 c, .int .i64 20] w fun e w' => ∃ A', e = .returned (.slice A' 20 20) ∧ Bs w' w'.heap.size A' (List.replicate 20 x) ∧ Below w.heap.size w w' := repeat_n 20 (by decide) (by decide) A x c w hA
end Go.Proofs.YtnlhcogmccladaaDoor.SRepeatW
