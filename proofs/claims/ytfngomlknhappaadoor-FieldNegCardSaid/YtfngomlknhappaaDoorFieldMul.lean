/-
  field.multiply: what it hands back. Conditions: both below 2^256.
-/
import Derived.Test.YtfngomlknhappaaDoorFieldW
import Derived.Deep.DeepCutAuto
namespace Go.Proofs.YtfngomlknhappaaDoor.FieldWW
open Go.RowKit BytesW ArrW ArrG ArrL FieldM NumA NumF FieldN

theorem idx4 (w : World) (v k : Nat) (hk : k < 4) : (Instr.index 46 (.agg (nc (wd v 4)).toArray) (.int .i64 (k : Int))).run Tryd.prog w = .ok (.int .u64 ((v / 18446744073709551616 ^ k % 18446744073709551616 : Nat) : Int)) w := by
  refine run_index_arr w _ 44 4 _ k _ _ wnum_u Tryd.underlying44 rfl (by kernel_rfl) hk ?_
  have h := nc_getD (wd v 4) k (by rw [wd_len]; exact hk)
  rw [wd_at v 4 k hk] at h
  simpa using h

set_option maxHeartbeats 4000000 in
set_option maxRecDepth 100000 in
theorem mul_any (X Y : Nat) (hX : X < 18446744073709551616 ^ 4) (hY : Y < 18446744073709551616 ^ 4) (w : World) :
    Calls Tryd.prog 52 #[.agg (nc (wd X 4)).toArray, .agg (nc (wd Y 4)).toArray] w fun e w' => e = .returned (.agg (nc (wd (X * Y) 8)).toArray) ∧ Below w.heap.size w w' := by
  have HX := Lib.hid hX
  have HY := Lib.hid hY
  clear hX hY
  go_enter Tryd.func52, Tryd.ntmps52
  go_upto_region 1 with (fail)
  generalize hW : World.alloc _ _ = W
  obtain ⟨H0, H1, H2, hbw, hsz⟩ := start3 hW
  clear hW
  have A0 : Hid (Arr W w.heap.size 46 (nc (wd X 4))) := Lib.hid H0
  have A1 : Hid (Arr W (w.heap.size + 1) 46 (nc (wd Y 4))) := Lib.hid H1
  have A2 : Hid (Arr W (w.heap.size + 2) 68 (nc (wd 0 8))) := Lib.hid H2
  obtain ⟨g, hg⟩ : ∃ g, w.heap.size = g := ⟨_, rfl⟩
  have HBw : Hid (Below g w W) := Lib.hid (by rw [← hg]; exact hbw)
  have HSZ : Hid (W.heap.size = g + 3) := Lib.hid (by rw [← hg]; exact hsz)
  have HG := Lib.hid hg
  rw [hg] at A0 A1 A2
  simp only [hg]
  clear H0 H1 H2 hbw hsz hg
  go_upto_region 2 with (fail)
  generalize hV : World.alloc _ _ = V
  obtain ⟨H3, hbv, hsv⟩ := start1 hV
  rw [HSZ.out] at H3 hsv hbv ⊢
  have A3 : Hid (Arr V (g + 3) 68 (nc (wd 0 8))) := Lib.hid H3
  have A01 := Lib.hid (A0.out.below hbv (by omega))
  have A11 := Lib.hid (A1.out.below hbv (by omega))
  have A21 := Lib.hid (A2.out.below hbv (by omega))
  have HBv := Lib.hid (HBw.out.trans (hbv.mono (by omega)))
  have HSV := Lib.hid hsv
  have HR0 := Lib.hid (RowI.start X Y)
  clear H3 hbv hsv hV A0 A1 A2 HBw HSZ
  go_wp2_with (refine Arr.loadL A01.out rfl 46 (.tmp 2) rfl rfl wnum_u rfl wnum_size (wd4 _) ?_)
  go_loopw [12] (fun vi wr => ∃ (i : Nat) (L : List Nat), i ≤ 4 ∧ vi = .int .i64 (i : Int) ∧ RowI X Y i L ∧ Arr wr (g + 3) 68 (nc L) ∧ V.grownBy wr (some (g + 3))) (fun vi _ => 4 - (intOf vi).toNat)
  case atStart => exact ⟨0, _, by omega, rfl, HR0.out, A3.out, grownRefl _ _⟩
  case round =>
    clear A3 HR0
    obtain ⟨i, L, hi, rfl, ri, ai, gi⟩ := hrel
    have RI := Lib.hid ri
    have AI := Lib.hid ai
    have GI := Lib.hid gi
    clear ri ai gi
    by_cases hlt : i < 4
    · have ct : decide ((i : Int) < 4) = true := decide_eq_true (by omega)
      have hix := fun w => idx4 w X i hlt
      have hal : X / 18446744073709551616 ^ i % 18446744073709551616 < 18446744073709551616 := Nat.mod_lt _ (by decide)
      obtain ⟨a, ha⟩ : ∃ a, X / 18446744073709551616 ^ i % 18446744073709551616 = a := ⟨_, rfl⟩
      rw [ha] at hix hal
      have Ha := Lib.hid ha
      have HLT := Lib.hid hlt
      have A1I := Lib.hid (arr_grown A11.out GI.out (by omega))
      have MI0 := Lib.hid RI.out.mul
      clear ha hi
      go_wp2_with (refine Arr.loadL A1I.out rfl 46 (.tmp 3) rfl rfl wnum_u rfl wnum_size (wd4 _) ?_)
      go_loopw [8, 17] (fun vc vj wx => ∃ (j c : Nat) (L : List Nat), j ≤ 4 ∧ vj = .int .i64 (j : Int) ∧ vc = .int .u64 (c : Int) ∧ MulI X Y i j L c ∧ Arr wx (g + 3) 68 (nc L) ∧ V.grownBy wx (some (g + 3))) (fun _ vj _ => 4 - (intOf vj).toNat)
      case atStart => exact ⟨0, 0, L, by omega, rfl, rfl, MI0.out, AI.out, GI.out⟩
      case round =>
        clear MI0 AI GI
        obtain ⟨j, c, M, hj, rfl, rfl, mj, aj, gj⟩ := hrel
        have MJ := Lib.hid mj
        have AJ := Lib.hid aj
        have GJ := Lib.hid gj
        clear mj aj gj
        by_cases hlj : j < 4
        · have cj : decide ((j : Int) < 4) = true := decide_eq_true (by omega)
          have hjx := fun w => idx4 w Y j hlj
          have hbl : Y / 18446744073709551616 ^ j % 18446744073709551616 < 18446744073709551616 := Nat.mod_lt _ (by decide)
          obtain ⟨b, hb⟩ : ∃ b, Y / 18446744073709551616 ^ j % 18446744073709551616 = b := ⟨_, rfl⟩
          rw [hb] at hjx hbl
          have hij : i + j < 8 := by have := HLT.out; omega
          have MS := MJ.out.step HLT.out hlj a b _ Ha.out.symm hb.symm rfl
          have hcl := MJ.out.2.2.2.1
          have hll := MJ.out.2.1 (i + j)
          have hlen := MJ.out.1
          have cc := AJ.out.cell (i + j)
          rw [nc_getD _ (i + j) (by rw [hlen]; exact hij)] at cc
          have fo := AJ.out.frozen (i + j)
          obtain ⟨l, hl⟩ : ∃ l, M.getD (i + j) 0 = l := ⟨_, rfl⟩
          rw [hl] at MS hll cc
          have HMA := Lib.hid (fun w => mulAdd_any a b l c hal hbl hll hcl w)
          obtain ⟨z, hz⟩ : ∃ z, (a * b + l + c) % 18446744073709551616 = z := ⟨_, rfl⟩
          obtain ⟨d, hd⟩ : ∃ d, (a * b + l + c) / 18446744073709551616 = d := ⟨_, rfl⟩
          rw [hz, hd] at MS HMA
          have HMS := Lib.hid MS
          obtain ⟨m, hm⟩ : ∃ m, i + j = m := ⟨_, rfl⟩
          have wm : IntKind.i64.wrap ((i : Int) + (j : Int)) = (m : Int) := by rw [IntWalk.i64_in _ (by omega)]; omega
          have im : (m : Int) < 8 := by omega
          have an := AJ.out.set m (.int .u64 (z : Int))
          rw [nc_set] at an
          have gn := grownTrans GJ.out (grownSet wr (g + 3) m (.int .u64 (z : Int)))
          rw [hm] at cc fo HMS
          have AN := Lib.hid an
          have GN := Lib.hid gn
          have HLJ := Lib.hid hlj
          clear hb hij MS hcl hll hlen hl hz hd hm an gn hj hal hbl
          go_wp2_with fail
          refine (HMA.out wr).mono ?_
          clear HMA
          rintro e V1 ⟨rfl, rfl⟩
          go_wp2
          go_roundw
          case rel => exact ⟨j + 1, d, _, by have := HLJ.out; omega, by go_num, rfl, HMS.out, AN.out, GN.out⟩
          case measure => have := HLJ.out; simp [intOf]; omega
        · obtain rfl : j = 4 := by omega
          have cj : decide (((4 : Nat) : Int) < 4) = false := rfl
          have HRW := Lib.hid (MJ.out.row HLT.out HY.out)
          have hij : i + 4 < 8 := by have := HLT.out; omega
          have cc := AJ.out.cell (i + 4)
          rw [nc_getD _ (i + 4) (by rw [MJ.out.1]; exact hij)] at cc
          have fo := AJ.out.frozen (i + 4)
          generalize M.getD (i + 4) 0 = old at cc
          obtain ⟨m, hm⟩ : ∃ m, i + 4 = m := ⟨_, rfl⟩
          have wm : IntKind.i64.wrap ((i : Int) + 4) = (m : Int) := by rw [IntWalk.i64_in _ (by omega)]; omega
          have im : (m : Int) < 8 := by omega
          have an := AJ.out.set m (.int .u64 (c : Int))
          rw [nc_set] at an
          have gn := grownTrans GJ.out (grownSet wr (g + 3) m (.int .u64 (c : Int)))
          rw [hm] at cc fo HRW
          have AN := Lib.hid an
          have GN := Lib.hid gn
          clear hij hm an gn hlj hj MJ AJ GJ
          go_wp2
          go_roundw
          case rel => exact ⟨i + 1, _, by have := HLT.out; omega, by go_num, HRW.out, AN.out, GN.out⟩
          case measure => have := HLT.out; simp [intOf]; omega
    · obtain rfl : i = 4 := by omega
      have ct : decide (((4 : Nat) : Int) < 4) = false := rfl
      have ai := AI.out
      rw [RI.out.all HX.out] at ai
      have AK := Lib.hid ai
      have A2F := Lib.hid (arr_grown A21.out GI.out (by omega))
      have HBX := Lib.hid (HBv.out.trans (grownBelow GI.out (show g ≤ g + 3 by omega) (by have := HSV.out; omega)))
      have AF := Lib.hid (A2F.out.row (nc (wd (X * Y) 8)))
      have HBF := Lib.hid (below_row HBX.out (show g ≤ g + 2 by omega) (nc (wd (X * Y) 8)).toArray)
      clear hlt ai AI
      go_wp2_with (first | (refine Arr.loadL AK.out rfl 68 (.tmp 5) rfl rfl pro_u rfl pro_size (wd8 _) ?_) | (refine Arr.storeL A2F.out rfl 68 (.tmp 4) (.tmp 43) rfl rfl (nc (wd (X * Y) 8)) rfl pro_size (wd8 _) (wd8 _) (nc_one _) ?_))
      refine bodyPost_ret (v := .agg (nc (wd (X * Y) 8)).toArray) (by exact AF.out.ret rfl _ rfl pro_u rfl pro_size (wd8 _)) rfl ⟨rfl, by rw [HG.out]; exact HBF.out⟩
end Go.Proofs.YtfngomlknhappaaDoor.FieldWW
