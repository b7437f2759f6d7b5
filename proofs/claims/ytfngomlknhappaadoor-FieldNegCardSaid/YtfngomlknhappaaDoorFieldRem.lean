/-
  field.remainder: what it hands back. Conditions: below twice the prime.
-/
import Derived.Test.YtfngomlknhappaaDoorFieldAdd
import Derived.Test.YtfngomlknhappaaDoorFieldMul
namespace Go.Proofs.YtfngomlknhappaaDoor.FieldWW
open Go.RowKit BytesW ArrW ArrG ArrL FieldM NumA NumF FieldN

theorem one_wd (f : Nat) (h : f < 18446744073709551616) : (nc (wd f 4)).toArray = #[.int .u64 (f : Int), .int .u64 0, .int .u64 0, .int .u64 0] := by
  have e : wd f 4 = [f, 0, 0, 0] := (wd_ext [f, 0, 0, 0] f 4 rfl fun k hk => by
    match k, hk with
    | 0, _ => rw [Nat.pow_zero, Nat.div_one, Nat.mod_eq_of_lt h]; rfl
    | k + 1, hk =>
      rw [Nat.div_eq_of_lt (Nat.lt_of_lt_of_le h (by rw [Nat.pow_succ, Nat.mul_comm]; exact Nat.le_mul_of_pos_right _ (Nat.pow_pos (by decide)))), Nat.zero_mod]
      match k, hk with
      | 0, _ => rfl
      | 1, _ => rfl
      | 2, _ => rfl
      | k + 3, hk => omega).symm
  rw [e]
  rfl
theorem and63 (x : Nat) (h : x < 18446744073709551616) : bits .and .u64 (x : Int) 9223372036854775807 = ((x % 9223372036854775808 : Nat) : Int) := by
  have h1 := Bits.and_u64 x 9223372036854775807 h (by decide)
  rw [show (9223372036854775807 : Nat) = 2 ^ 63 - 1 from rfl, Nat.and_two_pow_sub_one_eq_mod] at h1
  exact h1

set_option maxHeartbeats 4000000 in
set_option maxRecDepth 100000 in
theorem rem_any (X : Nat) (hX : X < P + P) (w : World) :
    Calls Tryd.prog 27 #[.agg (nc (wd X 4)).toArray] w fun e w' => e = .returned (.agg (nc (wd (X % P) 4)).toArray) ∧ Below w.heap.size w w' := by
  obtain ⟨ht1, ht2⟩ := rem_once X hX
  have l2 := wd_lt (X + 19) 4 3
  obtain ⟨x2, hx2⟩ : ∃ z, (wd (X + 19) 4).getD 3 0 = z := ⟨_, rfl⟩
  rw [hx2] at ht1 ht2 l2
  obtain ⟨t, ht⟩ : ∃ t, x2 / 9223372036854775808 = t := ⟨_, rfl⟩
  rw [ht] at ht1 ht2
  have hix : ∀ u : World, (Instr.index 46 (.agg (nc (wd (X + 19) 4)).toArray) (.int .i64 3)).run Tryd.prog u = .ok (.int .u64 (x2 : Int)) u := fun u => by
    have h := idx4 u (X + 19) 3 (by decide)
    rw [← wd_at (X + 19) 4 3 (by decide), hx2] at h
    exact h
  have s1 : (x2 : Int) / 9223372036854775808 = (t : Int) := by omega
  obtain ⟨f, hf⟩ : ∃ f, 19 * t = f := ⟨_, rfl⟩
  have s2 : IntKind.u64.wrap (19 * (t : Int)) = (f : Int) := by rw [IntKind.wrap_u64]; omega
  have hb5 : Hid (∀ w, (Instr.build 46 #[(0, .int .u64 19)]).run Tryd.prog w = .ok (.agg (nc (wd 19 4)).toArray) w) := Lib.hid (fun w => by rw [one_wd 19 (by decide)]; exact build1 19 w)
  have hbf : Hid (∀ w, (Instr.build 46 #[(0, .int .u64 (f : Int))]).run Tryd.prog w = .ok (.agg (nc (wd f 4)).toArray) w) := Lib.hid (fun w => by rw [one_wd f (by omega)]; exact build1 f w)
  rw [hf] at ht2
  have hmk := wd_mask (X + f)
  rw [ht2] at hmk
  obtain ⟨R, hR⟩ : ∃ R, X % P = R := ⟨_, rfl⟩
  rw [hR] at hmk ⊢
  have ly := wd_lt (X + f) 4 3
  have K3 := nc_getD (wd (X + f) 4) 3 (by rw [wd_len]; decide)
  obtain ⟨y3, hy3⟩ : ∃ z, (wd (X + f) 4).getD 3 0 = z := ⟨_, rfl⟩
  rw [hy3] at hmk ly K3
  have s3 := and63 y3 ly
  obtain ⟨z3, hz3⟩ : ∃ z, y3 % 9223372036854775808 = z := ⟨_, rfl⟩
  rw [hz3] at s3 hmk
  have HMk := Lib.hid hmk
  have HK3 := Lib.hid K3
  clear hx2 ht ht1 ht2 hf hR hy3 hz3 hmk ly K3 l2 hX
  go_enter Tryd.func27, Tryd.ntmps27
  go_upto_region 1 with (fail)
  generalize hW : World.alloc _ _ = W
  obtain ⟨H0, H1, hbw, hsz⟩ := start2 hW
  clear hW
  have A0 : Hid (Arr W w.heap.size 46 (nc (wd X 4))) := Lib.hid H0
  have A1 : Hid (Arr W (w.heap.size + 1) 46 (nc (wd 0 4))) := Lib.hid H1
  obtain ⟨g, hg⟩ : ∃ g, w.heap.size = g := ⟨_, rfl⟩
  have HBw : Hid (Below g w W) := Lib.hid (by rw [← hg]; exact hbw)
  have HSZ : Hid (g + 2 ≤ W.heap.size) := Lib.hid (by rw [← hg]; omega)
  have HG := Lib.hid hg
  rw [hg] at A0 A1
  simp only [hg]
  clear H0 H1 hbw hsz hg
  have HA1 := Lib.hid (add_any X 19 W)
  go_wp2_with (first | (show wpList _ _ _ (⟨_, Op.build _ _, _, _, _, _⟩ :: _) _ _; refine buildL rfl rfl rfl (hb5.out _) ?_) | (show wpList _ _ _ (⟨_, Op.load _ _, _, _, _, _⟩ :: _) _ _; refine Arr.loadL A0.out rfl 46 (.tmp 1) rfl rfl wnum_u rfl wnum_size (wd4 _) ?_))
  refine HA1.out.mono ?_
  clear HA1
  rintro e w1 ⟨rfl, b1⟩
  have A01 := Lib.hid (A0.out.below b1 A0.out.lt)
  have A11 := Lib.hid (A1.out.below b1 A1.out.lt)
  have HB1 := Lib.hid (HBw.out.trans (b1.mono (Nat.le_trans (Nat.le_add_right g 2) HSZ.out)))
  have HZ1 := Lib.hid (show g + 2 ≤ w1.heap.size from Nat.le_trans HSZ.out b1.size)
  clear b1 A0 A1 HBw HSZ
  have HA2 := Lib.hid (add_any X f w1)
  go_wp2_with (first | (show wpList _ _ _ (⟨_, Op.build _ _, _, _, _, _⟩ :: _) _ _; refine buildL rfl rfl rfl (hbf.out _) ?_) | (show wpList _ _ _ (⟨_, Op.load _ _, _, _, _, _⟩ :: _) _ _; refine Arr.loadL A01.out rfl 46 (.tmp 1) rfl rfl wnum_u rfl wnum_size (wd4 _) ?_))
  refine HA2.out.mono ?_
  clear HA2
  rintro e w2 ⟨rfl, b2⟩
  have A12 := Lib.hid (A11.out.below b2 A11.out.lt)
  have HB2 := Lib.hid (HB1.out.trans (b2.mono (Nat.le_trans (Nat.le_add_right g 2) HZ1.out)))
  have HZ2 := Lib.hid (show g + 2 ≤ w2.heap.size from Nat.le_trans HZ1.out b2.size)
  clear b2 A01 A11 HB1 HZ1
  go_upto_region 3 with (show wpList _ _ _ (⟨_, Op.store _ _ _, _, _, _, _⟩ :: _) _ _; refine Arr.storeL (Arr.new w2 _ _) rfl 46 (.tmp 4) (.tmp 14) rfl rfl (nc (wd (X + f) 4)) rfl wnum_size (by rfl) (wd4 _) (nc_one _) ?_)
  generalize hw3 : World.setRow _ _ _ = w3
  obtain ⟨a3, b3, z3'⟩ := filled hw3
  obtain ⟨p, hp⟩ : ∃ p, w2.heap.size = p := ⟨_, rfl⟩
  have A13 := Lib.hid (A12.out.below b3 A12.out.lt)
  have HB3 := Lib.hid (HB2.out.trans (b3.mono (Nat.le_trans (Nat.le_add_right g 2) HZ2.out)))
  have HP := Lib.hid (show g + 2 ≤ p by rw [← hp]; exact HZ2.out)
  rw [hp] at a3 z3' ⊢
  have HZ3 := Lib.hid z3'
  have c3 := (a3.cell 3).trans HK3.out
  have f3 := a3.frozen 3
  have an := a3.set 3 (.int .u64 (z3 : Int))
  rw [nc_set, HMk.out] at an
  have hgr := grownSet w3 p 3 (.int .u64 (z3 : Int))
  have bn := HB3.out.trans (grownBelow hgr (show g ≤ p by have := HP.out; omega) (by have := HZ3.out; have := HP.out; omega))
  have a1n := A13.out.other ⟨p, 3, none⟩ (.int .u64 (z3 : Int)) (show p ≠ g + 1 by have := HP.out; omega)
  have AN := Lib.hid an
  have BN := Lib.hid bn
  have A1N := Lib.hid a1n
  have AF := Lib.hid (A1N.out.row (nc (wd R 4)))
  have HBF := Lib.hid (below_row BN.out (show g ≤ g + 1 by omega) (nc (wd R 4)).toArray)
  clear a3 b3 z3' hw3 hp an bn a1n hgr A12 HB2 HZ2 A13 HB3 HZ3
  go_wp2_with (first | (show wpList _ _ _ (⟨_, Op.load _ (.tmp 4), _, _, _, _⟩ :: _) _ _; refine Arr.loadL AN.out rfl 46 (.tmp 4) rfl rfl wnum_u rfl wnum_size (wd4 _) ?_) | (show wpList _ _ _ (⟨_, Op.store _ (.tmp 2) _, _, _, _, _⟩ :: _) _ _; refine Arr.storeL A1N.out rfl 46 (.tmp 2) (.tmp 19) rfl rfl (nc (wd R 4)) rfl wnum_size (wd4 _) (wd4 _) (nc_one _) ?_))
  refine bodyPost_ret (v := .agg (nc (wd R 4)).toArray) (by exact AF.out.ret rfl _ rfl wnum_u rfl wnum_size (wd4 _)) rfl ⟨rfl, by rw [HG.out]; exact HBF.out⟩
end Go.Proofs.YtfngomlknhappaaDoor.FieldWW
