/-
  onetime.reduce: what it hands back. Conditions: in each statement.
-/
import Derived.Test.YtooaaacingaapaaOneMark
import Derived.Test.YtooaaacingaapaaOneMul
namespace Go.Proofs.Ytooaaacingaapaa.OneWW
open Go.RowKit BytesW ArrW ArrG ArrL OneM OneN OneR OneA16

set_option maxHeartbeats 4000000 in
set_option maxRecDepth 100000 in
theorem reduce_any (X : Nat) (hX : X < 57896044618658097711785492504343953926634992332820282019728792003956564819968) (w : World) :
    Calls Try.prog 24 #[.agg (nc (wd X 6)).toArray] w fun e w' => e = .returned (.agg (nc (wd (red X) 3)).toArray) ∧ Below w.heap.size w w' := by
  have E1 := Lib.hid (below_wd X)
  have E2 := Lib.hid (above_wd X (by omega))
  have hq1 : X / 1361129467683753853853498429727072845824 < 42535295865117307932921825928971026432 := by omega
  have hred : red X = X % 1361129467683753853853498429727072845824 + X / 1361129467683753853853498429727072845824 * 5 := by unfold red; omega
  rw [hred]
  obtain ⟨lo, hlo⟩ : ∃ z, X % 1361129467683753853853498429727072845824 = z := ⟨_, rfl⟩
  obtain ⟨up, hup⟩ : ∃ z, X / 1361129467683753853853498429727072845824 = z := ⟨_, rfl⟩
  rw [hlo] at E1 ⊢
  rw [hup] at E2 hq1 ⊢
  have E3 := Lib.hid (back_wd (up * 5) (by omega))
  have HMu := Lib.hid (fun w => mul_any up 5 (by rw [show (18446744073709551616 : Nat) ^ 3 = 6277101735386680763835789423207666416102355444464034512896 by decide]; omega) (by decide) w)
  obtain ⟨bk, hbk⟩ : ∃ z, up * 5 = z := ⟨_, rfl⟩
  rw [hbk] at E3 HMu ⊢
  have l2 := wd_lt X 6 2
  have l3 := wd_lt X 6 3
  have K0 := nc_getD (wd X 6) 0 (by rw [wd_len]; decide)
  have K1 := nc_getD (wd X 6) 1 (by rw [wd_len]; decide)
  have K2 := nc_getD (wd X 6) 2 (by rw [wd_len]; decide)
  have K3 := nc_getD (wd X 6) 3 (by rw [wd_len]; decide)
  have M0 := nc_getD (wd bk 6) 0 (by rw [wd_len]; decide)
  have M1 := nc_getD (wd bk 6) 1 (by rw [wd_len]; decide)
  obtain ⟨x0, h0⟩ : ∃ z, (wd X 6).getD 0 0 = z := ⟨_, rfl⟩
  obtain ⟨x1, h1⟩ : ∃ z, (wd X 6).getD 1 0 = z := ⟨_, rfl⟩
  obtain ⟨x2, h2⟩ : ∃ z, (wd X 6).getD 2 0 = z := ⟨_, rfl⟩
  obtain ⟨x3, h3⟩ : ∃ z, (wd X 6).getD 3 0 = z := ⟨_, rfl⟩
  obtain ⟨m0, i0⟩ : ∃ z, (wd bk 6).getD 0 0 = z := ⟨_, rfl⟩
  obtain ⟨m1, i1⟩ : ∃ z, (wd bk 6).getD 1 0 = z := ⟨_, rfl⟩
  rw [h0] at K0 E1
  rw [h1] at K1 E1
  rw [h2] at K2 E1 E2 l2
  rw [h3] at K3 E2 l3
  rw [i0] at M0 E3
  rw [i1] at M1 E3
  obtain ⟨y2, j2⟩ : ∃ z, x2 % 4 = z := ⟨_, rfl⟩
  have f1 : bits .and .u64 (x2 : Int) 3 = (y2 : Int) := by
    have h := Bits.and_u64 x2 3 l2 (by decide)
    rw [show (3 : Nat) = 2 ^ 2 - 1 from rfl, Nat.and_two_pow_sub_one_eq_mod, show (2 : Nat) ^ 2 = 4 from rfl, j2] at h
    exact h
  obtain ⟨u2, j3⟩ : ∃ z, x2 / 4 = z := ⟨_, rfl⟩
  obtain ⟨u3, j4⟩ : ∃ z, x3 / 4 = z := ⟨_, rfl⟩
  obtain ⟨s3, j5⟩ : ∃ z, x3 % 4 * 4611686018427387904 = z := ⟨_, rfl⟩
  have f2 : (x2 : Int) / 4 = (u2 : Int) := by omega
  have f3 : (x3 : Int) / 4 = (u3 : Int) := by omega
  have f4 : IntKind.u64.wrap ((x3 : Int) * 4611686018427387904) = (s3 : Int) := by rw [IntKind.wrap_u64]; omega
  have f6 : bits .or .u64 (u2 : Int) (s3 : Int) = ((u2 ||| s3 : Nat) : Int) := Bits.or_u64 u2 s3 (by omega) (by omega)
  rw [j2] at E1
  rw [j3, j4, j5] at E2
  obtain ⟨o2, j6⟩ : ∃ z, u2 ||| s3 = z := ⟨_, rfl⟩
  rw [j6] at f6 E2
  have B1 : Hid (∀ w, (Instr.build 48 #[(0, .int .u64 (x0 : Int)), (1, .int .u64 (x1 : Int)), (2, .int .u64 (y2 : Int))]).run Try.prog w = .ok (.agg (nc (wd lo 3)).toArray) w) := Lib.hid (fun w => by rw [E1.out]; exact build3 _ _ _ w)
  have B2 : Hid (∀ w, (Instr.build 48 #[(0, .int .u64 (o2 : Int)), (1, .int .u64 (u3 : Int))]).run Try.prog w = .ok (.agg (nc (wd up 3)).toArray) w) := Lib.hid (fun w => by rw [E2.out]; exact build2 _ _ w)
  have B3 : Hid (∀ w, (Instr.build 48 #[(0, .int .u64 (m0 : Int)), (1, .int .u64 (m1 : Int))]).run Try.prog w = .ok (.agg (nc (wd bk 3)).toArray) w) := Lib.hid (fun w => by rw [E3.out]; exact build2 _ _ w)
  have B5 : Hid (∀ w, (Instr.build 48 #[(0, .int .u64 5)]).run Try.prog w = .ok (.agg (nc (wd 5 3)).toArray) w) := Lib.hid (fun w => by rw [five_wd 5 (by decide)]; exact build1 5 w)
  have HK0 := Lib.hid K0
  have HK1 := Lib.hid K1
  have HK2 := Lib.hid K2
  have HK3 := Lib.hid K3
  have HM0 := Lib.hid M0
  have HM1 := Lib.hid M1
  clear hX hq1 hred hlo hup hbk h0 h1 h2 h3 i0 i1 j2 j3 j4 j5 j6 K0 K1 K2 K3 M0 M1 E1 E2 E3 l2 l3
  go_enter Try.func24, Try.ntmps24
  go_upto_region 1 with (fail)
  generalize hW : World.alloc _ _ = W
  obtain ⟨H0, H1, hbw, hsz⟩ := start2 hW
  clear hW
  have A0 : Hid (Arr W w.heap.size 56 (nc (wd X 6))) := Lib.hid H0
  have A1 : Hid (Arr W (w.heap.size + 1) 48 (nc (wd 0 3))) := Lib.hid H1
  obtain ⟨g, hg⟩ : ∃ g, w.heap.size = g := ⟨_, rfl⟩
  have HBw : Hid (Below g w W) := Lib.hid (by rw [← hg]; exact hbw)
  have HSZ : Hid (W.heap.size = g + 2) := Lib.hid (by rw [← hg]; omega)
  have HG := Lib.hid hg
  rw [hg] at A0 A1
  simp only [hg]
  clear H0 H1 hbw hsz hg
  have c0 := (A0.out.cell 0).trans HK0.out
  have c1 := (A0.out.cell 1).trans HK1.out
  have c2 := (A0.out.cell 2).trans HK2.out
  go_upto_region 2 with (first | (show wpList _ _ _ (⟨_, Op.build _ _, _, _, _, _⟩ :: _) _ _; refine buildL rfl rfl rfl (B1.out _) ?_) | (show wpList _ _ _ (⟨_, Op.store _ _ _, _, _, _, _⟩ :: _) _ _; refine Arr.storeL (Arr.new W _ _) rfl 48 (.tmp 3) (.tmp 13) rfl rfl (nc (wd lo 3)) rfl num_size (by rfl) (wd3 _) (nc_one _) ?_))
  generalize hw2 : World.setRow _ _ _ = w2
  obtain ⟨a2, b2, z2⟩ := filled hw2
  rw [HSZ.out] at a2 z2 ⊢
  have A2 := Lib.hid a2
  have A02 := Lib.hid (A0.out.below b2 A0.out.lt)
  have A12 := Lib.hid (A1.out.below b2 A1.out.lt)
  have HB2 := Lib.hid (HBw.out.trans (b2.mono (show g ≤ W.heap.size by have := HSZ.out; omega)))
  have HZ2 : Hid (w2.heap.size = g + 3) := Lib.hid z2
  clear a2 b2 z2 hw2 A0 A1 HBw HSZ c0 c1 c2
  have c2 := (A02.out.cell 2).trans HK2.out
  have c3 := (A02.out.cell 3).trans HK3.out
  go_upto_region 3 with (first | (show wpList _ _ _ (⟨_, Op.build _ _, _, _, _, _⟩ :: _) _ _; refine buildL rfl rfl rfl (B2.out _) ?_) | (show wpList _ _ _ (⟨_, Op.store _ _ _, _, _, _, _⟩ :: _) _ _; refine Arr.storeL (Arr.new w2 _ _) rfl 48 (.tmp 4) (.tmp 24) rfl rfl (nc (wd up 3)) rfl num_size (by rfl) (wd3 _) (nc_one _) ?_))
  generalize hw3 : World.setRow _ _ _ = w3
  obtain ⟨a3, b3, z3⟩ := filled hw3
  rw [HZ2.out] at a3 z3 ⊢
  have A3 := Lib.hid a3
  have A23 := Lib.hid (A2.out.below b3 A2.out.lt)
  have A13 := Lib.hid (A12.out.below b3 A12.out.lt)
  have HB3 := Lib.hid (HB2.out.trans (b3.mono (show g ≤ w2.heap.size by have := HZ2.out; omega)))
  have HZ3 : Hid (w3.heap.size = g + 4) := Lib.hid z3
  clear a3 b3 z3 hw3 A2 A12 A02 HB2 HZ2 c2 c3
  go_wp2_with (first | (show wpList _ _ _ (⟨_, Op.build _ _, _, _, _, _⟩ :: _) _ _; refine buildL rfl rfl rfl (B5.out _) ?_) | (show wpList _ _ _ (⟨_, Op.load _ _, _, _, _, _⟩ :: _) _ _; refine Arr.loadL A3.out rfl 48 (.tmp 4) rfl rfl num_u rfl num_size (wd3 _) ?_))
  refine (HMu.out w3).mono ?_
  clear HMu
  rintro e w4 ⟨rfl, b4⟩
  have A24 := Lib.hid (A23.out.below b4 A23.out.lt)
  have A14 := Lib.hid (A13.out.below b4 A13.out.lt)
  have HB4 := Lib.hid (HB3.out.trans (b4.mono (show g ≤ w3.heap.size by have := HZ3.out; omega)))
  have HZ4 : Hid (g + 4 ≤ w4.heap.size) := Lib.hid (by have := HZ3.out; have := b4.size; omega)
  clear b4 A23 A13 A3 HB3 HZ3
  go_upto_region 4 with (show wpList _ _ _ (⟨_, Op.store _ _ _, _, _, _, _⟩ :: _) _ _; refine Arr.storeL (Arr.new w4 _ _) rfl 56 (.tmp 5) (.tmp 27) rfl rfl (nc (wd bk 6)) rfl pro_size (by rfl) (wd6 _) (nc_one _) ?_)
  generalize hw5 : World.setRow _ _ _ = w5
  obtain ⟨a5, b5, z5⟩ := filled hw5
  obtain ⟨p, hp⟩ : ∃ p, w4.heap.size = p := ⟨_, rfl⟩
  have A25 := Lib.hid (A24.out.below b5 A24.out.lt)
  have A15 := Lib.hid (A14.out.below b5 A14.out.lt)
  have HB5 := Lib.hid (HB4.out.trans (b5.mono (show g ≤ w4.heap.size by have := HZ4.out; omega)))
  have HZ5 : Hid (g + 4 ≤ w5.heap.size) := Lib.hid (by have := HZ4.out; have := b5.size; omega)
  rw [hp] at a5 ⊢
  have A5 := Lib.hid a5
  clear a5 b5 z5 hw5 hp A24 A14 HB4 HZ4
  have c0 := (A5.out.cell 0).trans HM0.out
  have c1 := (A5.out.cell 1).trans HM1.out
  have HAd := Lib.hid (add_any lo bk w5)
  go_wp2_with (first | (show wpList _ _ _ (⟨_, Op.build _ _, _, _, _, _⟩ :: _) _ _; refine buildL rfl rfl rfl (B3.out _) ?_) | (show wpList _ _ _ (⟨_, Op.load _ _, _, _, _, _⟩ :: _) _ _; refine Arr.loadL A25.out rfl 48 (.tmp 3) rfl rfl num_u rfl num_size (wd3 _) ?_))
  refine HAd.out.mono ?_
  clear HAd
  rintro e w6 ⟨rfl, b6⟩
  have A16 := Lib.hid (A15.out.below b6 A15.out.lt)
  have HB6 := Lib.hid (HB5.out.trans (b6.mono (show g ≤ w5.heap.size by have := HZ5.out; omega)))
  have AF := Lib.hid (A16.out.row (nc (wd (lo + bk) 3)))
  have HBF := Lib.hid (below_row HB6.out (show g ≤ g + 1 by omega) (nc (wd (lo + bk) 3)).toArray)
  clear b6 c0 c1
  go_wp2_with (show wpList _ _ _ (⟨_, Op.store _ _ _, _, _, _, _⟩ :: _) _ _; refine Arr.storeL A16.out rfl 48 (.tmp 2) (.tmp 34) rfl rfl (nc (wd (lo + bk) 3)) rfl num_size (wd3 _) (wd3 _) (nc_one _) ?_)
  refine bodyPost_ret (v := .agg (nc (wd (lo + bk) 3)).toArray) (by exact AF.out.ret rfl _ rfl num_u rfl num_size (wd3 _)) rfl ⟨rfl, by rw [HG.out]; exact HBF.out⟩
end Go.Proofs.Ytooaaacingaapaa.OneWW
