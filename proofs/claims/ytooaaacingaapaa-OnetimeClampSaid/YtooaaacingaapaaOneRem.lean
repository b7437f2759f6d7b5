/-
  onetime.remainder, formed: what they hand back. Conditions: in each statement.
-/
import Derived.Test.YtooaaacingaapaaOneMark
import Derived.Test.YtooaaacingaapaaOneMul
namespace Go.Proofs.Ytooaaacingaapaa.OneWW
open Go.RowKit BytesW ArrW ArrG ArrL OneM OneN OneR OneA16

set_option maxHeartbeats 1000000 in
theorem formed_any (A : Option Addr) (l : List UInt8) (c : Nat) (w : World) :
    Calls Try.prog 13 #[.slice A l.length c] w fun e w' => e = .returned (.bool (decide (l.length = 32))) ∧ w = w' := by
  by_cases h1 : l.length = 32
  · have t1 : ((l.length : Int) == 32) = true := by rw [beq_iff_eq]; omega
    rw [decide_eq_true h1]
    clear h1
    go_enter Try.func13, Try.ntmps13
    go_wp2
    go_ret
    exact ⟨rfl, rfl⟩
  · have t1 : ((l.length : Int) == 32) = false := by rw [beq_eq_false_iff_ne]; omega
    rw [decide_eq_false h1]
    clear h1
    go_enter Try.func13, Try.ntmps13
    go_wp2
    go_ret
    exact ⟨rfl, rfl⟩

set_option maxHeartbeats 4000000 in
set_option maxRecDepth 100000 in
theorem remainder_any (X : Nat) (hX : Tot X) (w : World) :
    Calls Try.prog 29 #[.agg (nc (wd X 3)).toArray] w fun e w' => e = .returned (.agg (nc (wd (X + 5 * ((X + 5) / 1361129467683753853853498429727072845824)) 3)).toArray) ∧ Below w.heap.size w w' := by
  obtain ⟨ht1, ht2⟩ := times_wd X hX
  have l2 := wd_lt (X + 5) 3 2
  obtain ⟨x2, hx2⟩ : ∃ z, (wd (X + 5) 3).getD 2 0 = z := ⟨_, rfl⟩
  obtain ⟨t, ht⟩ : ∃ t, (X + 5) / 1361129467683753853853498429727072845824 = t := ⟨_, rfl⟩
  rw [hx2] at ht1 l2
  rw [ht] at ht1 ht2 ⊢
  have hix : ∀ u : World, (Instr.index 48 (.agg (nc (wd (X + 5) 3)).toArray) (.int .i64 2)).run Try.prog u = .ok (.int .u64 (x2 : Int)) u := fun u => by
    have h := idx3 u (X + 5) 2 (by decide)
    rw [← wd_at (X + 5) 3 2 (by decide), hx2] at h
    exact h
  have s1 : (x2 : Int) / 4 = (t : Int) := by omega
  obtain ⟨f, hf⟩ : ∃ f, 5 * t = f := ⟨_, rfl⟩
  have s2 : IntKind.u64.wrap (5 * (t : Int)) = (f : Int) := by rw [IntKind.wrap_u64]; omega
  have hb5 : Hid (∀ w, (Instr.build 48 #[(0, .int .u64 5)]).run Try.prog w = .ok (.agg (nc (wd 5 3)).toArray) w) := Lib.hid (fun w => by rw [five_wd 5 (by decide)]; exact build1 5 w)
  have hbf : Hid (∀ w, (Instr.build 48 #[(0, .int .u64 (f : Int))]).run Try.prog w = .ok (.agg (nc (wd f 3)).toArray) w) := Lib.hid (fun w => by rw [five_wd f (by omega)]; exact build1 f w)
  rw [hf]
  clear hx2 ht ht1 ht2 hf
  go_enter Try.func29, Try.ntmps29
  go_upto_region 1 with (fail)
  generalize hW : World.alloc _ _ = W
  obtain ⟨H0, H1, hbw, hsz⟩ := start2 hW
  clear hW
  have A0 : Hid (Arr W w.heap.size 48 (nc (wd X 3))) := Lib.hid H0
  have A1 : Hid (Arr W (w.heap.size + 1) 48 (nc (wd 0 3))) := Lib.hid H1
  obtain ⟨g, hg⟩ : ∃ g, w.heap.size = g := ⟨_, rfl⟩
  have HBw : Hid (Below g w W) := Lib.hid (by rw [← hg]; exact hbw)
  have HSZ : Hid (g ≤ W.heap.size) := Lib.hid (by rw [← hg]; omega)
  have HG := Lib.hid hg
  rw [hg] at A0 A1
  simp only [hg]
  clear H0 H1 hbw hsz hg
  have HA1 := Lib.hid (add_any X 5 W)
  go_wp2_with (first | (show wpList _ _ _ (⟨_, Op.build _ _, _, _, _, _⟩ :: _) _ _; refine buildL rfl rfl rfl (hb5.out _) ?_) | (show wpList _ _ _ (⟨_, Op.load _ _, _, _, _, _⟩ :: _) _ _; refine Arr.loadL A0.out rfl 48 (.tmp 1) rfl rfl num_u rfl num_size (wd3 _) ?_))
  refine HA1.out.mono ?_
  clear HA1
  rintro e w1 ⟨rfl, b1⟩
  have A01 := Lib.hid (A0.out.below b1 A0.out.lt)
  have A11 := Lib.hid (A1.out.below b1 A1.out.lt)
  have HB1 := Lib.hid (HBw.out.trans (b1.mono HSZ.out))
  have HZ1 := Lib.hid (show g ≤ w1.heap.size from Nat.le_trans HSZ.out b1.size)
  clear b1 A0 A1 HBw HSZ
  have HA2 := Lib.hid (add_any X f w1)
  go_wp2_with (first | (show wpList _ _ _ (⟨_, Op.build _ _, _, _, _, _⟩ :: _) _ _; refine buildL rfl rfl rfl (hbf.out _) ?_) | (show wpList _ _ _ (⟨_, Op.load _ _, _, _, _, _⟩ :: _) _ _; refine Arr.loadL A01.out rfl 48 (.tmp 1) rfl rfl num_u rfl num_size (wd3 _) ?_))
  refine HA2.out.mono ?_
  clear HA2
  rintro e w2 ⟨rfl, b2⟩
  have A12 := Lib.hid (A11.out.below b2 A11.out.lt)
  have HB2 := Lib.hid (HB1.out.trans (b2.mono HZ1.out))
  have AF := Lib.hid (A12.out.row (nc (wd (X + f) 3)))
  have HBF := Lib.hid (below_row HB2.out (show g ≤ g + 1 by omega) (nc (wd (X + f) 3)).toArray)
  clear b2
  go_wp2_with (show wpList _ _ _ (⟨_, Op.store _ _ _, _, _, _, _⟩ :: _) _ _; refine Arr.storeL A12.out rfl 48 (.tmp 2) (.tmp 13) rfl rfl (nc (wd (X + f) 3)) rfl num_size (wd3 _) (wd3 _) (nc_one _) ?_)
  refine bodyPost_ret (v := .agg (nc (wd (X + f) 3)).toArray) (by exact AF.out.ret rfl _ rfl num_u rfl num_size (wd3 _)) rfl ⟨rfl, by rw [HG.out]; exact HBF.out⟩

end Go.Proofs.Ytooaaacingaapaa.OneWW
