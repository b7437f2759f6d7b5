/-
  The walk of ticketwardkeep.OnetimeClamp: it returns true and writes nothing that was there. Conditions: lengths that fit, numbers of their kinds.
-/
import Derived.Test.YtooaaacingaapaaOneAlive
import Derived.Test.YtooaaacingaapaaSClone
import Derived.Test.YtooaaacingaapaaFrame
import Derived.Test.YtooaaacingaapaaKd
import Derived.Test.YtooaaacingaapaaKc
import Derived.Deep.DeepCutAuto
namespace Go.Proofs.Ytooaaacingaapaa.OnetimeClampL
open Go.RowKit BytesW ArrW ArrG ArrL OneM OneFaceW OneA16 SCloneW OneWW

theorem wf_i64 {n : Int} (h : (Lit.int .i64 n).wf = true) : -9223372036854775808 ≤ n ∧ n < 9223372036854775808 := by
  have hx : -9223372036854775808 ≤ n ∧ n ≤ 9223372036854775807 := by simpa [Lit.wf, IntKind.min, IntKind.max, IntKind.signed, IntKind.bits] using h
  omega

set_option maxHeartbeats 8000000 in
set_option maxRecDepth 100000 in
theorem walk (a0 : Option Addr) (l0 : List UInt8) (c0 : Nat) (a1 : Option Addr) (l1 : List UInt8) (c1 : Nat) (n : Int) (xb : Int) (w : World) (hA : Bs w w.heap.size a0 l0) (hc0 : l0.length ≤ c0) (hl0 : l0.length ≤ 140737488351232) (hB : Bs w w.heap.size a1 l1) (hc1 : l1.length ≤ c1) (hl1 : l1.length ≤ 140737488351232) (hwn : (Lit.int .i64 n).wf = true) (hwx : (Lit.int .u8 xb).wf = true) :
    Calls Try.prog 6 #[.slice a0 l0.length c0, .slice a1 l1.length c1, .int .i64 n, .int .u8 xb] w fun e w' => e = .returned (.bool true) ∧ Below w.heap.size w w' := by
  have HA := Lib.hid hA
  have HB := Lib.hid hB
  obtain ⟨hn1, hn2⟩ := wf_i64 hwn
  obtain ⟨x, hx⟩ : ∃ x : UInt8, xb = (x.toNat : Int) := ⟨_, Frame.byte_of_wf hwx⟩
  subst hx
  clear hA hB hwn hwx
  go_enter Try.func6, Try.ntmps6
  go_wp2_with fail
  refine (OneAliveW.alive_any w).mono ?_
  rintro e w1 ⟨rfl, b1⟩
  have X1 := Lib.hid b1
  clear b1
  have hs1 := osum_any a0 l0 c0 a1 l1 c1 w1 ((HA.out.below X1.out).more X1.out.size) hc0 ((HB.out.below X1.out).more X1.out.size) hc1 hl0 hl1
  by_cases h32 : l0.length = 32
  · obtain ⟨T, hT⟩ : ∃ T, tagS l0 l1 = T := ⟨_, rfl⟩
    have HTl := Lib.hid (show T.length = 16 by rw [← hT, tagS_len])
    have N16 := Lib.hid (show (Lib.byteCells T).length = 16 by rw [Lib.byteCells_length]; exact HTl.out)
    rw [show sumO l0 l1 = (T, 0) by unfold sumO; rw [if_pos h32, hT]] at hs1
    have HS1 := Lib.hid hs1
    have H32 := Lib.hid h32
    have HTt := Lib.hid hT
    rw [h32] at HS1 hc0 ⊢
    clear hs1 hT h32 hl0
    go_wp2_with fail
    refine HS1.out.mono ?_
    clear HS1
    rintro e w2 ⟨rfl, b2⟩
    have X2 := Lib.hid (X1.out.trans (b2.mono X1.out.size))
    clear b2 X1
    go_upto_region 4 with (show wpList _ _ _ (⟨_, Op.store _ _ _, _, _, _, _⟩ :: _) _ _; refine Arr.storeL (Arr.new w2 _ _) rfl 23 (.tmp 9) (.tmp 20) rfl rfl (Lib.byteCells T) rfl a16_size (by rfl) N16.out (bytes_one _) ?_)
    generalize hw3 : World.setRow _ _ _ = w3
    obtain ⟨p5, b3, z3⟩ := filled hw3
    have X3 := Lib.hid (X2.out.trans (b3.mono X2.out.size))
    have P5 := Lib.hid p5
    obtain ⟨g5, hg5⟩ : ∃ g, w2.heap.size = g := ⟨_, rfl⟩
    have HG5 := Lib.hid (show w.heap.size ≤ g5 by rw [← hg5]; exact X2.out.size)
    rw [hg5] at P5 z3 ⊢
    have HZ3 := Lib.hid z3
    clear b3 hw3 p5 hg5 z3
    by_cases hlo : n < 1
    · have t1 : decide (n < 1) = true := decide_eq_true hlo
      clear hlo
      go_wp2
      go_ret
      exact ⟨rfl, X3.out⟩
    · have t1 : decide (n < 1) = false := decide_eq_false hlo
      by_cases hhi : n > 15
      · have t2 : decide (n > 15) = true := decide_eq_true hhi
        clear hlo hhi
        go_wp2
        go_ret
        exact ⟨rfl, X3.out⟩
      · have t2 : decide (n > 15) = false := decide_eq_false hhi
        obtain ⟨k, rfl⟩ : ∃ k : Nat, n = (k : Int) := ⟨n.toNat, by omega⟩
        have hk1 : 1 ≤ k := by omega
        have hk15 : k ≤ 15 := by omega
        have hcl := clone_any a0 l0 c0 w3 ((HA.out.below X3.out).more X3.out.size) (by rw [H32.out]; decide)
        rw [H32.out] at hcl
        have HCl := Lib.hid hcl
        clear hcl hlo hhi hn1 hn2
        go_wp2_with fail
        refine HCl.out.mono ?_
        clear HCl
        rintro e w4 ⟨v, rfl, r4, b4⟩
        obtain ⟨A4, c4, rfl, s4, hc4⟩ := r4.form2
        obtain ⟨gm, rfl, hn4, hgm, hgl, -, -⟩ := r4.place (by rw [H32.out]; decide)
        rw [H32.out] at r4 hc4 ⊢
        have R4 := Lib.hid r4
        have X4 := Lib.hid (X3.out.trans (b4.mono X3.out.size))
        have P54 := Lib.hid (P5.out.below b4 P5.out.lt)
        have HGm := Lib.hid hgm
        clear r4 b4 s4 hn4 X3 P5 t1 t2
        have m1 : (k : Int).tmod 4 = ((k % 4 : Nat) : Int) := by rw [Int.tmod_eq_emod_of_nonneg (by omega)]; omega
        have m2 : (k : Int) % 4 = ((k % 4 : Nat) : Int) := by omega
        have hkl : k < l0.length := by rw [H32.out]; omega
        have hat := R4.out.at2 k hkl
        have hgd : l0.getD k 0 = l0[k] := by rw [List.getD_eq_getElem?_getD, List.getElem?_eq_getElem hkl]; rfl
        have ik : (k : Int) < 32 := by omega
        obtain ⟨r, hr⟩ : ∃ r, k % 4 = r := ⟨_, rfl⟩
        rw [hr] at m1 m2
        by_cases h3 : r = 3
        · subst h3
          have hz := nib l0[k] x
          have fa : bits .and .u8 (x.toNat : Int) 240 = ((x &&& 240).toNat : Int) := Bits.and_u8 x 240
          have fx := Bits.xor_u8 l0[k] (x &&& 240)
          obtain ⟨u, hu⟩ : ∃ u, x &&& 240 = u := ⟨_, rfl⟩
          rw [hu] at hz fa fx
          obtain ⟨y, hy⟩ : ∃ y, l0[k] = y := ⟨_, rfl⟩
          rw [hy] at hz fx hat hgd
          obtain ⟨z, hze⟩ : ∃ z, y ^^^ u = z := ⟨_, rfl⟩
          rw [hze] at hz fx
          have htc := tag_clamp l0 l1 k z H32.out hk1 hk15 (Or.inl ⟨hr, by rw [hgd]; exact hz⟩)
          obtain ⟨lf, hlf⟩ : ∃ lf, l0.set k z = lf := ⟨_, rfl⟩
          rw [hlf, HTt.out] at htc
          have HFt := Lib.hid htc
          have HFl := Lib.hid (show lf.length = 32 by rw [← hlf, List.length_set]; exact H32.out)
          have rn := R4.out.set2 H32.out k z (z.toNat : Int) rfl hlf
          have gn := grownSet w4 gm k (.int .u8 (z.toNat : Int))
          have RF0 := Lib.hid rn
          have XF0 := Lib.hid (X4.out.trans (grownBelow gn (show w.heap.size ≤ gm by have := HGm.out; have := HZ3.out; have := HG5.out; omega) X4.out.size))
          have PF0 := Lib.hid (arr_grown P54.out gn (by have := HGm.out; have := HZ3.out; omega))
          have cx := hat.1
          have fz := hat.2
          clear hz hu hy hze htc hlf rn gn hat hgd hr
          go_upto_region 12 with (fail)
          obtain ⟨w5, hw5⟩ : ∃ w5, w4.setCell ⟨gm, k, none⟩ (.int .u8 (z.toNat : Int)) = w5 := ⟨_, rfl⟩
          rw [hw5] at RF0 XF0 PF0 ⊢
          have RF := Lib.hid RF0.out
          have XF := Lib.hid XF0.out
          have PF := Lib.hid PF0.out
          clear hw5 cx fz fa fx RF0 XF0 PF0 R4 X4 P54
          obtain ⟨A5, c5, hv5, s5, hc5⟩ := RF.out.form2
          rw [HFl.out] at hv5 hc5
          cases hv5
          have hs2 := osum_any (some ⟨gm, 0, none⟩) lf c4 a1 l1 c1 w5 s5 (by rw [HFl.out]; exact hc5) ((HB.out.below XF.out).more XF.out.size) hc1 (by rw [HFl.out]; decide) hl1
          rw [show sumO lf l1 = (T, 0) by unfold sumO; rw [if_pos HFl.out, HFt.out], HFl.out] at hs2
          have HS2 := Lib.hid hs2
          clear hs2 s5 hc5
          go_wp2_with fail
          refine HS2.out.mono ?_
          clear HS2
          rintro e w6 ⟨rfl, b6⟩
          have X6 := Lib.hid (XF.out.trans (b6.mono XF.out.size))
          have P56 := Lib.hid (PF.out.below b6 PF.out.lt)
          clear b6 XF PF
          go_upto_region 13 with (show wpList _ _ _ (⟨_, Op.store _ _ _, _, _, _, _⟩ :: _) _ _; refine Arr.storeL (Arr.new w6 _ _) rfl 23 (.tmp 12) (.tmp 60) rfl rfl (Lib.byteCells T) rfl a16_size (by rfl) N16.out (bytes_one _) ?_)
          generalize hw7 : World.setRow _ _ _ = w7
          obtain ⟨p9, b7, z7⟩ := filled hw7
          have X7 := Lib.hid (X6.out.trans (b7.mono X6.out.size))
          have P57 := Lib.hid (P56.out.below b7 P56.out.lt)
          obtain ⟨g9, hg9⟩ : ∃ g, w6.heap.size = g := ⟨_, rfl⟩
          rw [hg9] at p9 ⊢
          have P9 := Lib.hid p9
          clear b7 hw7 p9 hg9 z7 X6 P56
          have heq := eql16 T HTl.out w7
          go_wp2_with (first | (show wpList _ _ _ (⟨_, Op.load _ _, _, _, _, _⟩ :: _) _ _; refine ArrL.loadLg P57.out (by rfl) 23 (.tmp 9) rfl rfl a16 rfl a16_size N16.out ?_) | (show wpList _ _ _ (⟨_, Op.load _ _, _, _, _, _⟩ :: _) _ _; refine ArrL.loadLg P9.out (by rfl) 23 (.tmp 12) rfl rfl a16 rfl a16_size N16.out ?_))
          go_ret
          exact ⟨rfl, X7.out⟩
        · by_cases h0 : r = 0
          · subst h0
            have hz := low2 l0[k] x
            have fa : bits .and .u8 (x.toNat : Int) 3 = ((x &&& 3).toNat : Int) := Bits.and_u8 x 3
            have fx := Bits.xor_u8 l0[k] (x &&& 3)
            obtain ⟨u, hu⟩ : ∃ u, x &&& 3 = u := ⟨_, rfl⟩
            rw [hu] at hz fa fx
            obtain ⟨y, hy⟩ : ∃ y, l0[k] = y := ⟨_, rfl⟩
            rw [hy] at hz fx hat hgd
            obtain ⟨z, hze⟩ : ∃ z, y ^^^ u = z := ⟨_, rfl⟩
            rw [hze] at hz fx
            have htc := tag_clamp l0 l1 k z H32.out hk1 hk15 (Or.inr ⟨hr, by rw [hgd]; exact hz⟩)
            obtain ⟨lf, hlf⟩ : ∃ lf, l0.set k z = lf := ⟨_, rfl⟩
            rw [hlf, HTt.out] at htc
            have HFt := Lib.hid htc
            have HFl := Lib.hid (show lf.length = 32 by rw [← hlf, List.length_set]; exact H32.out)
            have rn := R4.out.set2 H32.out k z (z.toNat : Int) rfl hlf
            have gn := grownSet w4 gm k (.int .u8 (z.toNat : Int))
            have RF0 := Lib.hid rn
            have XF0 := Lib.hid (X4.out.trans (grownBelow gn (show w.heap.size ≤ gm by have := HGm.out; have := HZ3.out; have := HG5.out; omega) X4.out.size))
            have PF0 := Lib.hid (arr_grown P54.out gn (by have := HGm.out; have := HZ3.out; omega))
            have cx := hat.1
            have fz := hat.2
            clear hz hu hy hze htc hlf rn gn hat hgd hr
            go_upto_region 12 with (fail)
            obtain ⟨w5, hw5⟩ : ∃ w5, w4.setCell ⟨gm, k, none⟩ (.int .u8 (z.toNat : Int)) = w5 := ⟨_, rfl⟩
            rw [hw5] at RF0 XF0 PF0 ⊢
            have RF := Lib.hid RF0.out
            have XF := Lib.hid XF0.out
            have PF := Lib.hid PF0.out
            clear hw5 cx fz fa fx RF0 XF0 PF0 R4 X4 P54
            obtain ⟨A5, c5, hv5, s5, hc5⟩ := RF.out.form2
            rw [HFl.out] at hv5 hc5
            cases hv5
            have hs2 := osum_any (some ⟨gm, 0, none⟩) lf c4 a1 l1 c1 w5 s5 (by rw [HFl.out]; exact hc5) ((HB.out.below XF.out).more XF.out.size) hc1 (by rw [HFl.out]; decide) hl1
            rw [show sumO lf l1 = (T, 0) by unfold sumO; rw [if_pos HFl.out, HFt.out], HFl.out] at hs2
            have HS2 := Lib.hid hs2
            clear hs2 s5 hc5
            go_wp2_with fail
            refine HS2.out.mono ?_
            clear HS2
            rintro e w6 ⟨rfl, b6⟩
            have X6 := Lib.hid (XF.out.trans (b6.mono XF.out.size))
            have P56 := Lib.hid (PF.out.below b6 PF.out.lt)
            clear b6 XF PF
            go_upto_region 13 with (show wpList _ _ _ (⟨_, Op.store _ _ _, _, _, _, _⟩ :: _) _ _; refine Arr.storeL (Arr.new w6 _ _) rfl 23 (.tmp 12) (.tmp 60) rfl rfl (Lib.byteCells T) rfl a16_size (by rfl) N16.out (bytes_one _) ?_)
            generalize hw7 : World.setRow _ _ _ = w7
            obtain ⟨p9, b7, z7⟩ := filled hw7
            have X7 := Lib.hid (X6.out.trans (b7.mono X6.out.size))
            have P57 := Lib.hid (P56.out.below b7 P56.out.lt)
            obtain ⟨g9, hg9⟩ : ∃ g, w6.heap.size = g := ⟨_, rfl⟩
            rw [hg9] at p9 ⊢
            have P9 := Lib.hid p9
            clear b7 hw7 p9 hg9 z7 X6 P56
            have heq := eql16 T HTl.out w7
            go_wp2_with (first | (show wpList _ _ _ (⟨_, Op.load _ _, _, _, _, _⟩ :: _) _ _; refine ArrL.loadLg P57.out (by rfl) 23 (.tmp 9) rfl rfl a16 rfl a16_size N16.out ?_) | (show wpList _ _ _ (⟨_, Op.load _ _, _, _, _, _⟩ :: _) _ _; refine ArrL.loadLg P9.out (by rfl) 23 (.tmp 12) rfl rfl a16 rfl a16_size N16.out ?_))
            go_ret
            exact ⟨rfl, X7.out⟩
          · have e3 : ((r : Int) == 3) = false := by rw [beq_eq_false_iff_ne]; omega
            have e0 : ((r : Int) == 0) = false := by rw [beq_eq_false_iff_ne]; omega
            obtain ⟨lf, hlf⟩ : ∃ lf, l0 = lf := ⟨_, rfl⟩
            have RF := Lib.hid R4.out
            have XF := Lib.hid X4.out
            have PF := Lib.hid P54.out
            have HFt := Lib.hid HTt.out
            have HFl := Lib.hid H32.out
            rw [hlf] at RF HFt HFl
            clear R4 X4 P54 hat hgd hr hlf hkl h3 h0
            go_upto_region 12 with (fail)
            obtain ⟨A5, c5, hv5, s5, hc5⟩ := RF.out.form2
            rw [HFl.out] at hv5 hc5
            cases hv5
            have hs2 := osum_any (some ⟨gm, 0, none⟩) lf c4 a1 l1 c1 w4 s5 (by rw [HFl.out]; exact hc5) ((HB.out.below XF.out).more XF.out.size) hc1 (by rw [HFl.out]; decide) hl1
            rw [show sumO lf l1 = (T, 0) by unfold sumO; rw [if_pos HFl.out, HFt.out], HFl.out] at hs2
            have HS2 := Lib.hid hs2
            clear hs2 s5 hc5
            go_wp2_with fail
            refine HS2.out.mono ?_
            clear HS2
            rintro e w6 ⟨rfl, b6⟩
            have X6 := Lib.hid (XF.out.trans (b6.mono XF.out.size))
            have P56 := Lib.hid (PF.out.below b6 PF.out.lt)
            clear b6 XF PF
            go_upto_region 13 with (show wpList _ _ _ (⟨_, Op.store _ _ _, _, _, _, _⟩ :: _) _ _; refine Arr.storeL (Arr.new w6 _ _) rfl 23 (.tmp 12) (.tmp 60) rfl rfl (Lib.byteCells T) rfl a16_size (by rfl) N16.out (bytes_one _) ?_)
            generalize hw7 : World.setRow _ _ _ = w7
            obtain ⟨p9, b7, z7⟩ := filled hw7
            have X7 := Lib.hid (X6.out.trans (b7.mono X6.out.size))
            have P57 := Lib.hid (P56.out.below b7 P56.out.lt)
            obtain ⟨g9, hg9⟩ : ∃ g, w6.heap.size = g := ⟨_, rfl⟩
            rw [hg9] at p9 ⊢
            have P9 := Lib.hid p9
            clear b7 hw7 p9 hg9 z7 X6 P56
            have heq := eql16 T HTl.out w7
            go_wp2_with (first | (show wpList _ _ _ (⟨_, Op.load _ _, _, _, _, _⟩ :: _) _ _; refine ArrL.loadLg P57.out (by rfl) 23 (.tmp 9) rfl rfl a16 rfl a16_size N16.out ?_) | (show wpList _ _ _ (⟨_, Op.load _ _, _, _, _, _⟩ :: _) _ _; refine ArrL.loadLg P9.out (by rfl) 23 (.tmp 12) rfl rfl a16 rfl a16_size N16.out ?_))
            go_ret
            exact ⟨rfl, X7.out⟩
  · rw [show sumO l0 l1 = (List.replicate 16 0, 1) by unfold sumO; rw [if_neg h32]] at hs1
    have N16 := Lib.hid (show (Lib.byteCells (List.replicate 16 (0 : UInt8))).length = 16 from rfl)
    obtain ⟨Z, hZe⟩ : ∃ Z : List UInt8, List.replicate 16 0 = Z := ⟨_, rfl⟩
    rw [hZe] at hs1 N16
    have HS1 := Lib.hid hs1
    clear h32 hZe hs1
    go_wp2_with fail
    refine HS1.out.mono ?_
    clear HS1
    rintro e w2 ⟨rfl, b2⟩
    have X2 := Lib.hid (X1.out.trans (b2.mono X1.out.size))
    clear b2 X1
    go_upto_region 4 with (show wpList _ _ _ (⟨_, Op.store _ _ _, _, _, _, _⟩ :: _) _ _; refine Arr.storeL (Arr.new w2 _ _) rfl 23 (.tmp 9) (.tmp 20) rfl rfl (Lib.byteCells Z) rfl a16_size (by rfl) N16.out (bytes_one _) ?_)
    generalize hw3 : World.setRow _ _ _ = w3
    obtain ⟨p5, b3, z3⟩ := filled hw3
    have X3 := Lib.hid (X2.out.trans (b3.mono X2.out.size))
    clear b3 hw3 p5 z3
    go_wp2
    go_ret
    exact ⟨rfl, X3.out⟩
end Go.Proofs.Ytooaaacingaapaa.OnetimeClampL
