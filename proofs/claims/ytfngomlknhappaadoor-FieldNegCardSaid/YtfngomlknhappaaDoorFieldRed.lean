/-
  field.reduce, field.times: what they hand back. Conditions: in each statement.
-/
import Derived.Test.YtfngomlknhappaaDoorFieldRem
namespace Go.Proofs.YtfngomlknhappaaDoor.FieldWW
open Go.RowKit BytesW ArrW ArrG ArrL FieldM NumA NumF FieldN

theorem first4 (V : Nat) : (nc (wd V 4)).toArray = #[.int .u64 (((wd V 8).getD 0 0 : Nat) : Int), .int .u64 (((wd V 8).getD 1 0 : Nat) : Int), .int .u64 (((wd V 8).getD 2 0 : Nat) : Int), .int .u64 (((wd V 8).getD 3 0 : Nat) : Int)] := by
  rw [wd_at V 8 0 (by decide), wd_at V 8 1 (by decide), wd_at V 8 2 (by decide), wd_at V 8 3 (by decide)]
  rfl
theorem or_low (a t : Nat) (ht : t ≤ 1) : 2 * a ||| t = 2 * a + t := by
  have h := Nat.two_pow_add_eq_or_of_lt (i := 1) (b := t) (by omega) a
  rw [Nat.pow_one] at h
  exact h.symm

set_option maxHeartbeats 4000000 in
set_option maxRecDepth 100000 in
theorem reduce_any (V : Nat) (hV : V < 13407807929942597099574024998205846127479365820592393377723561443721764030073546976801874298166903427690031858186486050853753882811946569946433649006084096) (w : World) :
    Calls Tryd.prog 51 #[.agg (nc (wd V 8)).toArray] w fun e w' => e = .returned (.agg (nc (wd (V % P) 4)).toArray) ∧ Below w.heap.size w w' := by
  have hca := carC_all V hV
  obtain ⟨S, hS⟩ : ∃ S, V % 115792089237316195423570985008687907853269984665640564039457584007913129639936 + 38 * (V / 115792089237316195423570985008687907853269984665640564039457584007913129639936) = S := ⟨_, rfl⟩
  rw [hS] at hca
  obtain ⟨ab, hab⟩ : ∃ a, S / 115792089237316195423570985008687907853269984665640564039457584007913129639936 = a := ⟨_, rfl⟩
  obtain ⟨tb, htb⟩ : ∃ t, (wd S 4).getD 3 0 / 9223372036854775808 = t := ⟨_, rfl⟩
  obtain ⟨r1, r2, r3, r4⟩ := red_all V S ab tb hV hS.symm hab.symm htb.symm
  rw [hab] at hca
  obtain ⟨h, hh⟩ : ∃ h, V / 18446744073709551616 ^ 4 = h := ⟨_, rfl⟩
  have hSS : wd (V + 38 * h) 4 = wd S 4 := by
    rw [← wd_mod S, ← wd_mod (V + 38 * h), ← hS, ← hh, B4, Nat.mod_add_mod]
  rw [hh] at hca
  have hmk := wd_mask S
  obtain ⟨lo, hlo⟩ : ∃ z, S % 57896044618658097711785492504343953926634992332820282019728792003956564819968 = z := ⟨_, rfl⟩
  rw [hlo] at hmk r3 r4
  have ly := wd_lt S 4 3
  have K3 := nc_getD (wd S 4) 3 (by rw [wd_len]; decide)
  obtain ⟨y3, hy3⟩ : ∃ z, (wd S 4).getD 3 0 = z := ⟨_, rfl⟩
  rw [hy3] at hmk ly K3 htb
  have s3 := and63 y3 ly
  obtain ⟨z3, hz3⟩ : ∃ z, y3 % 9223372036854775808 = z := ⟨_, rfl⟩
  rw [hz3] at s3 hmk
  have HS3 := Lib.hid s3
  have HMk := Lib.hid hmk
  have HK3 := Lib.hid K3
  obtain ⟨a2, ha2⟩ : ∃ z, 2 * ab = z := ⟨_, rfl⟩
  have t1 : IntKind.u64.wrap ((ab : Int) * 2) = (a2 : Int) := by rw [IntKind.wrap_u64]; omega
  have t2 : (y3 : Int) / 9223372036854775808 = (tb : Int) := by omega
  obtain ⟨ov, hov⟩ : ∃ z, 2 * ab + tb = z := ⟨_, rfl⟩
  have t3 : bits .or .u64 (a2 : Int) (tb : Int) = (ov : Int) := by
    rw [Bits.or_u64 _ _ (by omega) (by omega), ← ha2, or_low ab tb r2, hov]
  obtain ⟨f, hf⟩ : ∃ f, 19 * ov = f := ⟨_, rfl⟩
  have t4 : IntKind.u64.wrap (19 * (ov : Int)) = (f : Int) := by rw [IntKind.wrap_u64]; omega
  rw [hov, hf] at r3 r4
  have HT1 := Lib.hid t1
  have HT2 := Lib.hid t2
  have HT3 := Lib.hid t3
  have HT4 := Lib.hid t4
  have HR := Lib.hid (fun w => rem_any (lo + f) r3 w)
  rw [r4] at HR
  have hbf : Hid (∀ w, (Instr.build 46 #[(0, .int .u64 (f : Int))]).run Tryd.prog w = .ok (.agg (nc (wd f 4)).toArray) w) := Lib.hid (fun w => by rw [one_wd f (by omega)]; exact build1 f w)
  have hb4 : Hid (∀ w, (Instr.build 46 #[(0, .int .u64 (((wd V 8).getD 0 0 : Nat) : Int)), (1, .int .u64 (((wd V 8).getD 1 0 : Nat) : Int)), (2, .int .u64 (((wd V 8).getD 2 0 : Nat) : Int)), (3, .int .u64 (((wd V 8).getD 3 0 : Nat) : Int))]).run Tryd.prog w = .ok (.agg (nc (wd V 4)).toArray) w) := Lib.hid (fun w => by rw [first4]; exact build4 _ _ _ _ w)
  have k0 := nc_getD (wd V 8) 0 (by rw [wd_len]; decide)
  have k1 := nc_getD (wd V 8) 1 (by rw [wd_len]; decide)
  have k2 := nc_getD (wd V 8) 2 (by rw [wd_len]; decide)
  have k3 := nc_getD (wd V 8) 3 (by rw [wd_len]; decide)
  obtain ⟨x0, hx0⟩ : ∃ z, (wd V 8).getD 0 0 = z := ⟨_, rfl⟩
  obtain ⟨x1, hx1⟩ : ∃ z, (wd V 8).getD 1 0 = z := ⟨_, rfl⟩
  obtain ⟨x2, hx2⟩ : ∃ z, (wd V 8).getD 2 0 = z := ⟨_, rfl⟩
  obtain ⟨x3, hx3⟩ : ∃ z, (wd V 8).getD 3 0 = z := ⟨_, rfl⟩
  rw [hx0] at k0 hb4
  rw [hx1] at k1 hb4
  rw [hx2] at k2 hb4
  rw [hx3] at k3 hb4
  have Hk0 := Lib.hid k0
  have Hk1 := Lib.hid k1
  have Hk2 := Lib.hid k2
  have Hk3 := Lib.hid k3
  have HCA := Lib.hid hca
  have HSS := Lib.hid hSS
  have HH := Lib.hid hh
  obtain ⟨R, hRR⟩ : ∃ R, V % P = R := ⟨_, rfl⟩
  rw [hRR] at HR ⊢
  clear hV hS hab htb r1 r2 r3 r4 hSS hh hca hmk hlo ly K3 hy3 s3 hz3 ha2 t1 t2 hov t3 hf t4 k0 k1 k2 k3 hx0 hx1 hx2 hx3 hRR
  go_enter Tryd.func51, Tryd.ntmps51
  go_upto_region 1 with (fail)
  generalize hW : World.alloc _ _ = W
  obtain ⟨H0, H1, hbw, hsz⟩ := start2 hW
  clear hW
  have A0 : Hid (Arr W w.heap.size 68 (nc (wd V 8))) := Lib.hid H0
  have A1 : Hid (Arr W (w.heap.size + 1) 46 (nc (wd 0 4))) := Lib.hid H1
  obtain ⟨g, hg⟩ : ∃ g, w.heap.size = g := ⟨_, rfl⟩
  have HBw : Hid (Below g w W) := Lib.hid (by rw [← hg]; exact hbw)
  have HSZ : Hid (W.heap.size = g + 2) := Lib.hid (by rw [← hg]; omega)
  have HG := Lib.hid hg
  rw [hg] at A0 A1
  simp only [hg]
  clear H0 H1 hbw hsz hg
  have c0 := (A0.out.cell 0).trans Hk0.out
  have c1 := (A0.out.cell 1).trans Hk1.out
  have c2 := (A0.out.cell 2).trans Hk2.out
  have c3 := (A0.out.cell 3).trans Hk3.out
  go_upto_region 2 with (first | (show wpList _ _ _ (⟨_, Op.build _ _, _, _, _, _⟩ :: _) _ _; refine buildL rfl rfl rfl (hb4.out _) ?_) | (show wpList _ _ _ (⟨_, Op.store _ _ _, _, _, _, _⟩ :: _) _ _; refine Arr.storeL (Arr.new W _ _) rfl 46 (.tmp 3) (.tmp 14) rfl rfl (nc (wd V 4)) rfl wnum_size (by rfl) (wd4 _) (nc_one _) ?_))
  generalize hw2 : World.setRow _ _ _ = w2
  obtain ⟨a2', b2, z2⟩ := filled hw2
  rw [HSZ.out] at a2' z2 ⊢
  have A2 : Hid (Arr w2 (g + 2) 46 (nc (mid (V + 38 * h) V 4 0))) := Lib.hid (by rw [mid_zero]; exact a2')
  have A02 := Lib.hid (A0.out.below b2 A0.out.lt)
  have A12 := Lib.hid (A1.out.below b2 A1.out.lt)
  have HB2 := Lib.hid (HBw.out.trans (b2.mono (show g ≤ W.heap.size by have := HSZ.out; omega)))
  have HZ2 : Hid (w2.heap.size = g + 3) := Lib.hid z2
  have HC0 := Lib.hid (carC_zero 38 V h)
  clear a2' b2 z2 hw2 A0 A1 HBw HSZ c0 c1 c2 c3 hb4
  go_wp2
  go_loopw [4, 15] (fun vc vk wr => ∃ k : Nat, k ≤ 4 ∧ vk = .int .i64 (k : Int) ∧ vc = .int .u64 ((carC 38 V h k : Nat) : Int) ∧ Arr wr (g + 2) 46 (nc (mid (V + 38 * h) V 4 k)) ∧ w2.grownBy wr (some (g + 2))) (fun _ vk _ => 4 - (intOf vk).toNat)
  case atStart => exact ⟨0, by omega, rfl, by rw [HC0.out]; rfl, A2.out, grownRefl _ _⟩
  case round =>
    clear A2 HC0
    obtain ⟨k, hk, rfl, rfl, ak, gk⟩ := hrel
    have AK := Lib.hid ak
    have GK := Lib.hid gk
    clear ak gk
    by_cases hlt : k < 4
    · have ct : decide ((k : Int) < 4) = true := decide_eq_true (by omega)
      have c0 := (arr_grown A02.out GK.out (by omega)).cell (4 + k)
      rw [nc_getD _ (4 + k) (by rw [wd_len]; omega), wd_high V 4 k (by omega), HH.out] at c0
      have co := AK.out.cell k
      rw [nc_getD _ k (by rw [mid_len]; exact hlt), mid_at _ _ _ _ hlt] at co
      have fo := AK.out.frozen k
      have hst := carC_step 38 V h k
      have hcl : carC 38 V h k < 18446744073709551616 := by
        unfold carC
        refine Nat.div_lt_of_lt_mul ?_
        have hp : 0 < (18446744073709551616 : Nat) ^ k := Nat.pow_pos (by decide)
        have m1 := Nat.mod_lt V hp
        have m2 := Nat.mod_lt h hp
        generalize (18446744073709551616 : Nat) ^ k = Pk at *
        omega
      have hse := mid_set (V + 38 * h) V 4 k hlt
      have hdl : h / 18446744073709551616 ^ k % 18446744073709551616 < 18446744073709551616 := Nat.mod_lt _ (by decide)
      have hll : V / 18446744073709551616 ^ k % 18446744073709551616 < 18446744073709551616 := Nat.mod_lt _ (by decide)
      obtain ⟨x, hx⟩ : ∃ x, h / 18446744073709551616 ^ k % 18446744073709551616 = x := ⟨_, rfl⟩
      obtain ⟨y, hy⟩ : ∃ y, V / 18446744073709551616 ^ k % 18446744073709551616 = y := ⟨_, rfl⟩
      obtain ⟨c, hc⟩ : ∃ c, carC 38 V h k = c := ⟨_, rfl⟩
      obtain ⟨d, hd⟩ : ∃ d, carC 38 V h (k + 1) = d := ⟨_, rfl⟩
      obtain ⟨z, hz⟩ : ∃ z, (V + 38 * h) / 18446744073709551616 ^ k % 18446744073709551616 = z := ⟨_, rfl⟩
      rw [hx] at c0 hst hdl
      rw [hy] at co hst hll
      rw [hc, hd, hz] at hst
      rw [hz] at hse
      rw [hc] at hcl ⊢
      have HMA := Lib.hid (fun w => mulAdd_any x 38 y c hdl (by decide) hll hcl w)
      rw [hst.1, hst.2] at HMA
      have HDD := Lib.hid hd
      obtain ⟨m, hm⟩ : ∃ m, 4 + k = m := ⟨_, rfl⟩
      have wm : IntKind.i64.wrap (4 + (k : Int)) = (m : Int) := by rw [IntWalk.i64_in _ (by omega)]; omega
      have im : (m : Int) < 8 := by omega
      rw [hm] at c0
      have ik : (k : Int) < 4 := by omega
      have an := AK.out.drew.set k (.int .u64 (z : Int))
      rw [nc_set, hse] at an
      have gn := grownTrans GK.out (grownTrans (grownDrew wr (some (g + 2))) (grownSet wr.drew (g + 2) k (.int .u64 (z : Int))))
      have AN := Lib.hid an
      have GN := Lib.hid gn
      have HLT := Lib.hid hlt
      clear hx hy hc hd hz hst hse hcl an gn hlt hk hdl hll hm
      go_upto_region 6 with (fail)
      refine Phase.wp_region_phases [([0], [1, 2, 3, 4, 5, 6, 7, 8, 9, 10], none), ([12], [11, 13], some 14), ([], [15], none)] (fun W => W = wr.drew) (by kernel_rfl) (by kernel_rfl) (fun _ _ d _ _ h => by cases d <;> exact h) rfl ?_
      refine Phase.g_quiet ?_
      refine Phase.p_step rfl (fun K hK => ?_); go_simp; refine hK _ ?_; clear hK K
      refine Phase.p_nil ?_
      iterate 8 (refine Phase.q_step rfl (fun K hK => ?_); go_simp; refine hK _ ?_; clear hK K)
      refine Phase.q_step rfl (fun K hK => ?_); go_simp; apply Exists.intro; refine ⟨?_, hK _ ?_⟩; (exact (HMA.out _).mono fun e w' he => ⟨he.1, he.2.symm⟩); clear hK K
      iterate 1 (refine Phase.q_step rfl (fun K hK => ?_); go_simp; refine hK _ ?_; clear hK K)
      refine Phase.q_nil ?_
      refine Phase.g_alone rfl ?_
      refine Phase.p_step rfl (fun K hK => ?_); go_simp; refine hK _ ?_; clear hK K
      refine Phase.p_nil ?_
      iterate 2 (refine Phase.q_step rfl (fun K hK => ?_); go_simp; refine hK _ ?_; clear hK K)
      refine Phase.q_nil ?_
      rintro _ rfl K hK
      go_simp
      obtain ⟨w3, hw3⟩ : ∃ x, wr.drew.setCell ⟨g + 2, k, none⟩ (.int .u64 (z : Int)) = x := ⟨_, rfl⟩
      rw [hw3] at AN GN
      refine hK _ _ ⟨fun W => W = w3, hw3, ?_⟩
      clear hK K hw3 co fo c0 HMA
      refine Phase.g_quiet ?_
      refine Phase.p_nil ?_
      iterate 1 (refine Phase.q_step rfl (fun K hK => ?_); go_simp; refine hK _ ?_; clear hK K)
      refine Phase.q_nil ?_
      refine Phase.g_nil ?_
      intro wz hz
      rw [show wz = w3 from hz]
      clear hz
      go_wp2
      go_roundw
      case rel => exact ⟨k + 1, by have := HLT.out; omega, by go_num, by rw [HDD.out], AN.out, GN.out⟩
      case measure => have := HLT.out; simp [intOf]; omega
    · obtain rfl : k = 4 := by omega
      have ct : decide (((4 : Nat) : Int) < 4) = false := rfl
      rw [mid_all, HSS.out] at AK
      rw [HCA.out]
      have A1K := Lib.hid (arr_grown A12.out GK.out (by omega))
      have HBX := Lib.hid (HB2.out.trans (grownBelow GK.out (show g ≤ g + 2 by omega) (by have := HZ2.out; omega)))
      have HZK := Lib.hid (show g + 3 ≤ wr.heap.size by have := GK.out.size; have := HZ2.out; omega)
      have c3 := (AK.out.cell 3).trans HK3.out
      have f3 := AK.out.frozen 3
      have an := AK.out.set 3 (.int .u64 (z3 : Int))
      rw [nc_set, HMk.out] at an
      have hgr := grownSet wr (g + 2) 3 (.int .u64 (z3 : Int))
      have bn := HBX.out.trans (grownBelow hgr (show g ≤ g + 2 by omega) (by have := HZK.out; omega))
      have a1n := A1K.out.other ⟨g + 2, 3, none⟩ (.int .u64 (z3 : Int)) (show g + 2 ≠ g + 1 by omega)
      have zn := hgr.size
      have AN := Lib.hid an
      have BN := Lib.hid bn
      have A1N := Lib.hid a1n
      have ZN := Lib.hid (Nat.le_trans HZK.out zn)
      have t1 := HT1.out
      have t2 := HT2.out
      have t3 := HT3.out
      have t4 := HT4.out
      have s3 := HS3.out
      clear hlt hk an hgr bn a1n zn AK A1K HBX HZK GK HCA HSS HH A02 A12 HB2 HZ2
      go_upto_region 10 with (fail)
      generalize World.setCell _ _ _ = w4 at *
      clear c3 f3 t1 t2 t3 s3
      have HA := Lib.hid (add_any lo f w4)
      go_wp2_with (first | (show wpList _ _ _ (⟨_, Op.build _ _, _, _, _, _⟩ :: _) _ _; refine buildL rfl rfl rfl (hbf.out _) ?_) | (show wpList _ _ _ (⟨_, Op.load _ _, _, _, _, _⟩ :: _) _ _; refine Arr.loadL AN.out rfl 46 (.tmp 3) rfl rfl wnum_u rfl wnum_size (wd4 _) ?_))
      refine HA.out.mono ?_
      clear HA
      rintro e w5 ⟨rfl, b5⟩
      have A15 := Lib.hid (A1N.out.below b5 A1N.out.lt)
      have HB5 := Lib.hid (BN.out.trans (b5.mono (by have := ZN.out; omega)))
      have HZ5 := Lib.hid (Nat.le_trans ZN.out b5.size)
      clear b5 AN BN A1N ZN
      go_wp2_with fail
      refine (HR.out w5).mono ?_
      clear HR
      rintro e w6 ⟨rfl, b6⟩
      have A16 := Lib.hid (A15.out.below b6 A15.out.lt)
      have HB6 := Lib.hid (HB5.out.trans (b6.mono (by have := HZ5.out; omega)))
      have AF := Lib.hid (A16.out.row (nc (wd R 4)))
      have HBF := Lib.hid (below_row HB6.out (show g ≤ g + 1 by omega) (nc (wd R 4)).toArray)
      clear b6 A15 HB5 HZ5
      go_wp2_with (show wpList _ _ _ (⟨_, Op.store _ _ _, _, _, _, _⟩ :: _) _ _; refine Arr.storeL A16.out rfl 46 (.tmp 2) (.tmp 48) rfl rfl (nc (wd R 4)) rfl wnum_size (wd4 _) (wd4 _) (nc_one _) ?_)
      refine bodyPost_ret (v := .agg (nc (wd R 4)).toArray) (by exact AF.out.ret rfl _ rfl wnum_u rfl wnum_size (wd4 _)) rfl ⟨rfl, by rw [HG.out]; exact HBF.out⟩
end Go.Proofs.YtfngomlknhappaaDoor.FieldWW
