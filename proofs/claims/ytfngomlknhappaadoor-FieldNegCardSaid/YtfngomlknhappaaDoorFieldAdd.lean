/-
  field.add: what it hands back. Conditions: none.
-/
import Derived.Test.YtfngomlknhappaaDoorFieldW
import Derived.Deep.DeepCutAuto
namespace Go.Proofs.YtfngomlknhappaaDoor.FieldWW
open Go.RowKit BytesW ArrW ArrG ArrL FieldM NumA NumF FieldN

set_option maxHeartbeats 4000000 in
set_option maxRecDepth 100000 in
theorem add_any (X Y : Nat) (w : World) :
    Calls Tryd.prog 28 #[.agg (nc (wd X 4)).toArray, .agg (nc (wd Y 4)).toArray] w fun e w' => e = .returned (.agg (nc (wd (X + Y) 4)).toArray) ∧ Below w.heap.size w w' := by
  go_enter Tryd.func28, Tryd.ntmps28
  go_upto_region 1 with (fail)
  generalize hW : World.alloc _ _ = W
  obtain ⟨H0, H1, H2, hbw, hsz⟩ := start3 hW
  clear hW
  have A0 : Hid (Arr W w.heap.size 46 (nc (wd X 4))) := Lib.hid H0
  have A1 : Hid (Arr W (w.heap.size + 1) 46 (nc (wd Y 4))) := Lib.hid H1
  have A2 : Hid (Arr W (w.heap.size + 2) 46 (nc (wd 0 4))) := Lib.hid H2
  obtain ⟨g, hg⟩ : ∃ g, w.heap.size = g := ⟨_, rfl⟩
  have HBw : Hid (Below g w W) := Lib.hid (by rw [← hg]; exact hbw)
  have HSZ : Hid (W.heap.size = g + 3) := Lib.hid (by rw [← hg]; exact hsz)
  have HG := Lib.hid hg
  rw [hg] at A0 A1 A2
  simp only [hg]
  clear H0 H1 H2 hbw hsz hg
  go_upto_region 2 with (fail)
  generalize hV : World.alloc _ _ = V
  obtain ⟨H3, hbv, hsv⟩ := start1 hV
  rw [HSZ.out] at H3 hsv hbv ⊢
  have A3 : Hid (Arr V (g + 3) 46 (nc (fst (X + Y) 4 0))) := Lib.hid (by rw [fst_zero]; exact H3)
  have A01 := Lib.hid (A0.out.below hbv (by omega))
  have A11 := Lib.hid (A1.out.below hbv (by omega))
  have A21 := Lib.hid (A2.out.below hbv (by omega))
  have HBv := Lib.hid (HBw.out.trans (hbv.mono (by omega)))
  have HSV := Lib.hid hsv
  have HC0 := Lib.hid (carB_zero 18446744073709551616 X Y)
  clear H3 hbv hsv hV A0 A1 A2 HBw HSZ
  go_wp2
  go_loopw [6, 8] (fun vc vk wr => ∃ k : Nat, k ≤ 4 ∧ vk = .int .i64 (k : Int) ∧ vc = .int .u64 ((carB 18446744073709551616 X Y k : Nat) : Int) ∧ Arr wr (g + 3) 46 (nc (fst (X + Y) 4 k)) ∧ V.grownBy wr (some (g + 3))) (fun _ vk _ => 4 - (intOf vk).toNat)
  case atStart => exact ⟨0, by omega, rfl, by rw [HC0.out]; rfl, A3.out, grownRefl _ _⟩
  case round =>
    obtain ⟨k, hk, rfl, rfl, ak, gk⟩ := hrel
    have AK := Lib.hid ak
    have GK := Lib.hid gk
    clear ak gk HC0
    by_cases hlt : k < 4
    · have ct : decide ((k : Int) < 4) = true := decide_eq_true (by omega)
      have c0 := (arr_grown A01.out GK.out (by omega)).cell k
      have c1 := (arr_grown A11.out GK.out (by omega)).cell k
      rw [nc_getD _ k (by rw [wd_len]; exact hlt), wd_at _ _ _ hlt] at c0 c1
      have co := AK.out.cell k
      rw [nc_getD _ k (by rw [fst_len _ _ _ hk]; exact hlt)] at co
      have fo := AK.out.frozen k
      have hst := carB_step 18446744073709551616 X Y k (by decide)
      have hcl := carB_le 18446744073709551616 X Y k (by decide)
      have hse := fst_set (X + Y) 4 k hlt
      obtain ⟨x, hx⟩ : ∃ x, X / 18446744073709551616 ^ k % 18446744073709551616 = x := ⟨_, rfl⟩
      obtain ⟨y, hy⟩ : ∃ y, Y / 18446744073709551616 ^ k % 18446744073709551616 = y := ⟨_, rfl⟩
      obtain ⟨c, hc⟩ : ∃ c, carB 18446744073709551616 X Y k = c := ⟨_, rfl⟩
      obtain ⟨d, hd⟩ : ∃ d, carB 18446744073709551616 X Y (k + 1) = d := ⟨_, rfl⟩
      obtain ⟨z, hz⟩ : ∃ z, (X + Y) / 18446744073709551616 ^ k % 18446744073709551616 = z := ⟨_, rfl⟩
      generalize (fst (X + Y) 4 k).getD k 0 = old at co
      rw [hx] at c0 hst
      rw [hy] at c1 hst
      rw [hc, hd, hz] at hst
      rw [hz] at hse
      rw [hc] at hcl ⊢
      have hadd := add64_n x y c hcl
      rw [hst.1, hst.2] at hadd
      have HD := Lib.hid hd
      have ik : (k : Int) < 4 := by omega
      have an := AK.out.drew.set k (.int .u64 (z : Int))
      rw [nc_set, hse] at an
      have gn := grownTrans GK.out (grownTrans (grownDrew wr (some (g + 3))) (grownSet wr.drew (g + 3) k (.int .u64 (z : Int))))
      have AN := Lib.hid an
      have GN := Lib.hid gn
      have HLT := Lib.hid hlt
      clear hx hy hc hd hz hst hse hcl an gn hlt hk
      go_upto_region 6 with (fail)
      refine Phase.wp_region_phases [([0], [1, 2, 3, 4, 5, 6, 7, 8, 9], none), ([11], [10, 12], some 13), ([], [14], none)] (fun W => W = wr.drew) (by kernel_rfl) (by kernel_rfl) (fun _ _ d _ _ h => by cases d <;> exact h) rfl ?_
      refine Phase.g_quiet ?_
      refine Phase.p_step rfl (fun K hK => ?_); go_simp; refine hK _ ?_; clear hK K
      refine Phase.p_nil ?_
      iterate 9 (refine Phase.q_step rfl (fun K hK => ?_); go_simp; refine hK _ ?_; clear hK K)
      refine Phase.q_nil ?_
      refine Phase.g_alone rfl ?_
      refine Phase.p_step rfl (fun K hK => ?_); go_simp; refine hK _ ?_; clear hK K
      refine Phase.p_nil ?_
      iterate 2 (refine Phase.q_step rfl (fun K hK => ?_); go_simp; refine hK _ ?_; clear hK K)
      refine Phase.q_nil ?_
      rintro _ rfl K hK
      go_simp
      obtain ⟨w2, hw2⟩ : ∃ x, wr.drew.setCell ⟨g + 3, k, none⟩ (.int .u64 (z : Int)) = x := ⟨_, rfl⟩
      rw [hw2] at AN GN
      refine hK _ _ ⟨fun W => W = w2, hw2, ?_⟩
      clear hK K hw2 co fo c0 c1 hadd
      refine Phase.g_quiet ?_
      refine Phase.p_nil ?_
      iterate 1 (refine Phase.q_step rfl (fun K hK => ?_); go_simp; refine hK _ ?_; clear hK K)
      refine Phase.q_nil ?_
      refine Phase.g_nil ?_
      intro wz hz
      rw [show wz = w2 from hz]
      clear hz
      go_wp2
      go_roundw
      case rel => exact ⟨k + 1, by have := HLT.out; omega, by go_num, by rw [HD.out], AN.out, GN.out⟩
      case measure => have := HLT.out; simp [intOf]; omega
    · obtain rfl : k = 4 := by omega
      have ct : decide (((4 : Nat) : Int) < 4) = false := rfl
      rw [fst_all] at AK
      have A2F := Lib.hid (arr_grown A21.out GK.out (by omega))
      have HBX := Lib.hid (HBv.out.trans (grownBelow GK.out (show g ≤ g + 3 by omega) (by have := HSV.out; omega)))
      have AF := Lib.hid (A2F.out.row (nc (wd (X + Y) 4)))
      have HBF := Lib.hid (below_row HBX.out (show g ≤ g + 2 by omega) (nc (wd (X + Y) 4)).toArray)
      clear hlt
      go_wp2_with (first | (refine Arr.loadL AK.out rfl 46 (.tmp 5) rfl rfl wnum_u rfl wnum_size (wd4 _) ?_) | (refine Arr.storeL A2F.out rfl 46 (.tmp 4) (.tmp 25) rfl rfl (nc (wd (X + Y) 4)) rfl wnum_size (wd4 _) (wd4 _) (nc_one _) ?_))
      refine bodyPost_ret (v := .agg (nc (wd (X + Y) 4)).toArray) (by exact AF.out.ret rfl _ rfl wnum_u rfl wnum_size (wd4 _)) rfl ⟨rfl, by rw [HG.out]; exact HBF.out⟩
end Go.Proofs.YtfngomlknhappaaDoor.FieldWW
