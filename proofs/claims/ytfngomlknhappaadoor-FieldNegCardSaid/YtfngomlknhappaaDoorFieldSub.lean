/-
  field.subtract: what it hands back. Conditions: in the statement.
-/
import Derived.Test.YtfngomlknhappaaDoorFieldW
import Derived.Deep.DeepCutAuto
namespace Go.Proofs.YtfngomlknhappaaDoor.FieldWW
open Go.RowKit BytesW ArrW ArrG ArrL FieldM NumA NumF FieldN

set_option maxHeartbeats 4000000 in
set_option maxRecDepth 100000 in
theorem sub_any (X Y : Nat) (hX : X < 18446744073709551616 ^ 4) (hY : Y < 18446744073709551616 ^ 4) (w : World) :
    Calls Tryd.prog 49 #[.agg (nc (wd X 4)).toArray, .agg (nc (wd Y 4)).toArray] w fun e w' => e = .returned (.tuple #[.agg (nc (wd (X + 18446744073709551616 ^ 4 - Y) 4)).toArray, .int .u64 (((if X < Y then 1 else 0 : Nat) : Nat) : Int)]) ∧ Below w.heap.size w w' := by
  have HX := Lib.hid hX
  have HY := Lib.hid hY
  clear hX hY
  obtain ⟨D, hD⟩ : ∃ D, X + 18446744073709551616 ^ 4 - Y = D := ⟨_, rfl⟩
  have HD := Lib.hid hD
  obtain ⟨bo, hbo⟩ : ∃ b : Nat, (if X < Y then 1 else 0) = b := ⟨_, rfl⟩
  have HALL := Lib.hid ((borB_all X Y 4 HX.out HY.out).trans hbo)
  rw [hD, hbo]
  clear hD hbo
  go_enter Tryd.func49, Tryd.ntmps49
  go_upto_region 1 with (fail)
  generalize hW : World.alloc _ _ = W
  obtain ⟨H0, H1, H2, hbw, hsz⟩ := start3 hW
  clear hW
  have A0 : Hid (Arr W w.heap.size 46 (nc (wd X 4))) := Lib.hid H0
  have A1 : Hid (Arr W (w.heap.size + 1) 46 (nc (wd Y 4))) := Lib.hid H1
  have A2 : Hid (Arr W (w.heap.size + 2) 46 (nc (fst D 4 0))) := Lib.hid (by rw [fst_zero]; exact H2)
  obtain ⟨g, hg⟩ : ∃ g, w.heap.size = g := ⟨_, rfl⟩
  have HBw : Hid (Below g w W) := Lib.hid (by rw [← hg]; exact hbw)
  have HSZ : Hid (W.heap.size = g + 3) := Lib.hid (by rw [← hg]; exact hsz)
  have HG := Lib.hid hg
  rw [hg] at A0 A1 A2
  simp only [hg]
  have HC0 := Lib.hid (borB_zero 18446744073709551616 X Y)
  clear H0 H1 H2 hbw hsz hg
  go_wp2
  go_loopw [5, 7] (fun vc vk wr => ∃ k : Nat, k ≤ 4 ∧ vk = .int .i64 (k : Int) ∧ vc = .int .u64 ((borB 18446744073709551616 X Y k : Nat) : Int) ∧ Arr wr (g + 2) 46 (nc (fst D 4 k)) ∧ W.grownBy wr (some (g + 2))) (fun _ vk _ => 4 - (intOf vk).toNat)
  case atStart => exact ⟨0, by omega, rfl, by rw [HC0.out]; rfl, A2.out, grownRefl _ _⟩
  case round =>
    clear A2
    obtain ⟨k, hk, rfl, rfl, ak, gk⟩ := hrel
    have AK := Lib.hid ak
    have GK := Lib.hid gk
    clear ak gk HC0
    by_cases hlt : k < 4
    · have ct : decide ((k : Int) < 4) = true := decide_eq_true (by omega)
      have c0 := (arr_grown A0.out GK.out (by omega)).cell k
      have c1 := (arr_grown A1.out GK.out (by omega)).cell k
      rw [nc_getD _ k (by rw [wd_len]; exact hlt), wd_at _ _ _ hlt] at c0 c1
      have co := AK.out.cell k
      rw [nc_getD _ k (by rw [fst_len _ _ _ hk]; exact hlt)] at co
      have fo := AK.out.frozen k
      have hst := borB_step X Y k 4 hlt HY.out
      rw [HD.out] at hst
      have hcl := borB_le 18446744073709551616 X Y k
      have hse := fst_set D 4 k hlt
      obtain ⟨x, hx⟩ : ∃ x, X / 18446744073709551616 ^ k % 18446744073709551616 = x := ⟨_, rfl⟩
      obtain ⟨y, hy⟩ : ∃ y, Y / 18446744073709551616 ^ k % 18446744073709551616 = y := ⟨_, rfl⟩
      obtain ⟨c, hc⟩ : ∃ c, borB 18446744073709551616 X Y k = c := ⟨_, rfl⟩
      obtain ⟨d, hd⟩ : ∃ d, borB 18446744073709551616 X Y (k + 1) = d := ⟨_, rfl⟩
      obtain ⟨z, hz⟩ : ∃ z, D / 18446744073709551616 ^ k % 18446744073709551616 = z := ⟨_, rfl⟩
      generalize (fst D 4 k).getD k 0 = old at co
      rw [hx] at c0 hst
      rw [hy] at c1 hst
      rw [hc, hd, hz] at hst
      rw [hz] at hse
      rw [hc] at hcl ⊢
      have hadd := sub64_n x y c hcl
      rw [hst.1, hst.2] at hadd
      have HDD := Lib.hid hd
      have ik : (k : Int) < 4 := by omega
      have an := AK.out.drew.set k (.int .u64 (z : Int))
      rw [nc_set, hse] at an
      have gn := grownTrans GK.out (grownTrans (grownDrew wr (some (g + 2))) (grownSet wr.drew (g + 2) k (.int .u64 (z : Int))))
      have AN := Lib.hid an
      have GN := Lib.hid gn
      have HLT := Lib.hid hlt
      clear hx hy hc hd hz hst hse hcl an gn hlt hk
      go_upto_region 4 with (fail)
      refine Phase.wp_region_phases [([0], [1, 2, 3, 4, 5, 6, 7, 8, 9], none), ([11], [10, 12], some 13), ([], [14], none)] (fun W => W = wr.drew) (by kernel_rfl) (by kernel_rfl) (fun _ _ d _ _ h => by cases d <;> exact h) rfl ?_
      refine Phase.g_quiet ?_
      refine Phase.p_step rfl (fun K hK => ?_); go_simp; refine hK _ ?_; clear hK K
      refine Phase.p_nil ?_
      iterate 9 (refine Phase.q_step rfl (fun K hK => ?_); go_simp; refine hK _ ?_; clear hK K)
      refine Phase.q_nil ?_
      refine Phase.g_alone rfl ?_
      refine Phase.p_step rfl (fun K hK => ?_); go_simp; refine hK _ ?_; clear hK K
      refine Phase.p_nil ?_
      iterate 2 (refine Phase.q_step rfl (fun K hK => ?_); go_simp; refine hK _ ?_; clear hK K)
      refine Phase.q_nil ?_
      rintro _ rfl K hK
      go_simp
      obtain ⟨w2, hw2⟩ : ∃ x, wr.drew.setCell ⟨g + 2, k, none⟩ (.int .u64 (z : Int)) = x := ⟨_, rfl⟩
      rw [hw2] at AN GN
      refine hK _ _ ⟨fun W => W = w2, hw2, ?_⟩
      clear hK K hw2 co fo c0 c1 hadd
      refine Phase.g_quiet ?_
      refine Phase.p_nil ?_
      iterate 1 (refine Phase.q_step rfl (fun K hK => ?_); go_simp; refine hK _ ?_; clear hK K)
      refine Phase.q_nil ?_
      refine Phase.g_nil ?_
      intro wz hz
      rw [show wz = w2 from hz]
      clear hz
      go_wp2
      go_roundw
      case rel => exact ⟨k + 1, by have := HLT.out; omega, by go_num, by rw [HDD.out], AN.out, GN.out⟩
      case measure => have := HLT.out; simp [intOf]; omega
    · obtain rfl : k = 4 := by omega
      have ct : decide (((4 : Nat) : Int) < 4) = false := rfl
      rw [fst_all] at AK
      rw [HALL.out]
      have HBX := Lib.hid (HBw.out.trans (grownBelow GK.out (show g ≤ g + 2 by omega) (by have := HSZ.out; omega)))
      have AF := Lib.hid (AK.out.row (nc (wd D 4)))
      have HBF := Lib.hid (below_row HBX.out (show g ≤ g + 2 by omega) (nc (wd D 4)).toArray)
      clear hlt
      go_wp2_with (first | (show wpList _ _ _ (⟨_, Op.load _ _, _, _, _, _⟩ :: _) _ _; refine Arr.loadL AK.out rfl 46 (.tmp 4) rfl rfl wnum_u rfl wnum_size (wd4 _) ?_) | (show wpList _ _ _ (⟨_, Op.store _ _ _, _, _, _, _⟩ :: _) _ _; refine Arr.storeL AK.out rfl 46 (.tmp 4) (.tmp 24) rfl rfl (nc (wd D 4)) rfl wnum_size (wd4 _) (wd4 _) (nc_one _) ?_))
      refine bodyPost_ret (v := .tuple #[.agg (nc (wd D 4)).toArray, .int .u64 (bo : Int)]) (by exact AF.out.ret2 rfl _ rfl rfl wnum_u rfl wnum_size (wd4 _)) rfl ⟨rfl, by rw [HG.out]; exact HBF.out⟩
end Go.Proofs.YtfngomlknhappaaDoor.FieldWW
