/-
  The walk of ticketwardkeep.OnetimeShift: it returns true and writes nothing that was there. Conditions: lengths that fit.
-/
import Derived.Test.YtooaaacingaapaaOneAlive
import Derived.Test.YtooaaacingaapaaOneInc
import Derived.Test.YtooaaacingaapaaSClone
import Derived.Test.YtooaaacingaapaaKd
import Derived.Test.YtooaaacingaapaaKc
import Derived.Deep.DeepCutAuto
import Derived.Deep.CutBlock
namespace Go.Proofs.Ytooaaacingaapaa.OnetimeShiftL
open Go.RowKit BytesW ArrW ArrG ArrL OneM OneFaceW OneA16 SCloneW OneWW

set_option maxHeartbeats 8000000 in
set_option maxRecDepth 100000 in
theorem walk (a0 : Option Addr) (l0 : List UInt8) (c0 : Nat) (a1 : Option Addr) (l1 : List UInt8) (c1 : Nat) (w : World) (hA : Bs w w.heap.size a0 l0) (hc0 : l0.length ≤ c0) (hl0 : l0.length ≤ 140737488351232) (hB : Bs w w.heap.size a1 l1) (hc1 : l1.length ≤ c1) (hl1 : l1.length ≤ 140737488351232) :
    Calls Try.prog 4 #[.slice a0 l0.length c0, .slice a1 l1.length c1] w fun e w' => e = .returned (.bool true) ∧ Below w.heap.size w w' := by
  have HA := Lib.hid hA
  have HB := Lib.hid hB
  clear hA hB
  go_enter Try.func4, Try.ntmps4
  go_wp2_with fail
  refine (OneAliveW.alive_any w).mono ?_
  rintro e w1 ⟨rfl, b1⟩
  have X1 := Lib.hid b1
  clear b1
  have hs1 := osum_any a0 l0 c0 a1 l1 c1 w1 ((HA.out.below X1.out).more X1.out.size) hc0 ((HB.out.below X1.out).more X1.out.size) hc1 hl0 hl1
  by_cases h32 : l0.length = 32
  · obtain ⟨T, hT⟩ : ∃ T, tagS l0 l1 = T := ⟨_, rfl⟩
    have HTl := Lib.hid (show T.length = 16 by rw [← hT, tagS_len])
    have N16 := Lib.hid (show (Lib.byteCells T).length = 16 by rw [Lib.byteCells_length]; exact HTl.out)
    have HSh := Lib.hid (tag_shift l0 l1 h32)
    rw [show sumO l0 l1 = (T, 0) by unfold sumO; rw [if_pos h32, hT]] at hs1
    rw [hT] at HSh
    have HS1 := Lib.hid hs1
    have HHl := Lib.hid (show (l0.take 16).length = 16 by rw [List.length_take]; omega)
    have HDl := Lib.hid (show (l0.drop 16).length = 16 by rw [List.length_drop]; omega)
    have HSp := Lib.hid (show l0.take 16 ++ l0.drop 16 = l0 from List.take_append_drop 16 l0)
    have H32 := Lib.hid h32
    obtain ⟨H, hH⟩ : ∃ H, l0.take 16 = H := ⟨_, rfl⟩
    obtain ⟨D, hD⟩ : ∃ D, l0.drop 16 = D := ⟨_, rfl⟩
    rw [hH, hD] at HSh HSp
    rw [hH] at HHl
    rw [hD] at HDl
    rw [h32] at HS1 hc0 ⊢
    clear hs1 hT h32 hH hD hl0
    go_wp2_with fail
    refine HS1.out.mono ?_
    clear HS1
    rintro e w2 ⟨rfl, b2⟩
    have X2 := Lib.hid (X1.out.trans (b2.mono X1.out.size))
    clear b2 X1
    go_upto_region 4 with (show wpList _ _ _ (⟨_, Op.store _ _ _, _, _, _, _⟩ :: _) _ _; refine Arr.storeL (Arr.new w2 _ _) rfl 23 (.tmp 5) (.tmp 18) rfl rfl (Lib.byteCells T) rfl a16_size (by rfl) N16.out (bytes_one _) ?_)
    generalize hw3 : World.setRow _ _ _ = w3
    obtain ⟨p5, b3, z3⟩ := filled hw3
    have X3 := Lib.hid (X2.out.trans (b3.mono X2.out.size))
    have P5 := Lib.hid p5
    obtain ⟨g5, hg5⟩ : ∃ g, w2.heap.size = g := ⟨_, rfl⟩
    have HG5 := Lib.hid (show w.heap.size ≤ g5 by rw [← hg5]; exact X2.out.size)
    rw [hg5] at P5 z3 ⊢
    have HZ3 := Lib.hid z3
    clear b3 hw3 p5 hg5 z3
    have hcl := clone_any a0 l0 c0 w3 ((HA.out.below X3.out).more X3.out.size) (by rw [H32.out]; decide)
    rw [H32.out] at hcl
    have HCl := Lib.hid hcl
    clear hcl
    go_wp2_with fail
    refine HCl.out.mono ?_
    clear HCl
    rintro e w4 ⟨v, rfl, r4, b4⟩
    obtain ⟨A4, c4, rfl, s4, hc4⟩ := r4.form2
    obtain ⟨gm, rfl, hn4, hgm, hgl, _, _⟩ := r4.place (by rw [H32.out]; decide)
    rw [H32.out] at r4 hc4 ⊢
    have R4 := Lib.hid r4
    have X4 := Lib.hid (X3.out.trans (b4.mono X3.out.size))
    have P54 := Lib.hid (P5.out.below b4 P5.out.lt)
    have HGm := Lib.hid hgm
    clear r4 b4 s4 hn4 X3 P5
    have R40 : Hid (Row w3.heap.size w4 (.slice (some ⟨gm, 0, none⟩) 32 c4) (H ++ incT D 0)) := Lib.hid (by rw [incT_zero, HSp.out]; exact R4.out)
    have HI0 := Lib.hid (IncI.zero D)
    go_upto_block 0 with (fail)
    go_cut [8] (fun q wz => (∃ k : Nat, q = .int .i64 (k : Int)) ∧ Row w3.heap.size wz (.slice (some ⟨gm, 0, none⟩) 32 c4) (H ++ incL D) ∧ w4.grownBy wz (some gm))
    case first =>
      go_wp2_with fail
      go_loopw [8] (fun q wz => ∃ m j : Nat, j ≤ 16 ∧ m = 16 + j ∧ q = .int .i64 (m : Int) ∧ IncI D j ∧ Row w3.heap.size wz (.slice (some ⟨gm, 0, none⟩) 32 c4) (H ++ incT D j) ∧ w4.grownBy wz (some gm)) (fun q _ => 32 - (intOf q).toNat)
      case atStart => exact ⟨16, 0, by omega, rfl, rfl, HI0.out, R40.out, grownRefl _ _⟩
      case round =>
        obtain ⟨m, j, hj, hm, rfl, hi, rj, gj⟩ := hrel
        have RJ := Lib.hid rj
        have GJ := Lib.hid gj
        have HI := Lib.hid hi
        have HM := Lib.hid hm
        clear rj gj hi R40 HI0
        rename World => wx
        have hml : m ≤ 32 := by omega
        by_cases hlt : j < 16
        · have ct : decide ((m : Int) < 32) = true := decide_eq_true (by omega)
          have hjd : j < D.length := by rw [HDl.out]; exact hlt
          have hat := (RJ.out.at2 (16 + j) (by rw [List.length_append, HHl.out, incT_len D j (by omega), HDl.out]; omega))
          rw [head_at H _ 16 j HHl.out (by rw [incT_len D j (by omega)]; exact hjd), incT_at D j hjd, ← hm] at hat
          have cx := hat.1
          have fx := hat.2
          have hw := inc_wrap HI.out hjd
          have hs := inc_stop HI.out hjd
          obtain ⟨x, hx⟩ : ∃ x, D[j] = x := ⟨_, rfl⟩
          rw [hx] at cx hw hs
          obtain ⟨y, hy⟩ : ∃ y, x + 1 = y := ⟨_, rfl⟩
          have wy : IntKind.u8.wrap ((x.toNat : Int) + 1) = (y.toNat : Int) := by rw [← hy, UInt8.toNat_add, IntKind.wrap_u8]; rfl
          rw [hy] at hw hs
          have im : (m : Int) < 32 := by omega
          have rn := RJ.out.set2 (by rw [List.length_append, HHl.out, incT_len D j (by omega), HDl.out]) (16 + j) y (y.toNat : Int) rfl rfl
          rw [head_set H _ 16 j HHl.out, ← hm] at rn
          have gn := grownTrans GJ.out (grownSet wx gm m (.int .u8 (y.toNat : Int)))
          have RN := Lib.hid rn
          have GN := Lib.hid gn
          have HW := Lib.hid hw
          have HS := Lib.hid hs
          have cy : ((wx.setCell ⟨gm, m, none⟩ (.int .u8 (y.toNat : Int))).cell? ⟨gm, m, none⟩) = some (.int .u8 (y.toNat : Int)) := by
            exact World.cell?_setCell_same' _ _ _ (by rw [cx]; rfl)
          clear hat hw hs hx hy rn gn hjd hm
          go_upto_region 11 with (fail)
          obtain ⟨w5, hw5⟩ : ∃ w5, wx.setCell ⟨gm, m, none⟩ (.int .u8 (y.toNat : Int)) = w5 := ⟨_, rfl⟩
          rw [hw5] at cy RN GN ⊢
          clear hw5 cx fx wy
          by_cases h0 : y = 0
          · subst h0
            have t0 : ((((0 : UInt8).toNat : Nat) : Int) != 0) = false := rfl
            have HW2 := Lib.hid (HW.out rfl)
            have hr1 := RN.out
            rw [HW2.out.1] at hr1
            have R1 := Lib.hid hr1
            clear hr1
            go_wp2
            go_roundw
            case rel => exact ⟨m + 1, j + 1, by omega, by have := HM.out; omega, by go_num, HW2.out.2, R1.out, GN.out⟩
            case measure => simp [intOf]; omega
          · have t0 : ((y.toNat : Int) != 0) = true := bne_iff_ne.2 (fun h => h0 (UInt8.toNat.inj (by simpa using h)))
            have hr1 := RN.out
            rw [HS.out h0] at hr1
            have R1 := Lib.hid hr1
            clear hr1 h0
            go_wp2
            go_meet
            case rel => exact ⟨⟨m, rfl⟩, R1.out, GN.out⟩
        · obtain rfl : j = 16 := by omega
          have hm32 : m = 32 := by omega
          subst hm32
          have ct : decide (((32 : Nat) : Int) < 32) = false := rfl
          have hr1 := RJ.out
          rw [show (16 : Nat) = D.length from HDl.out.symm, inc_end (by rw [HDl.out]; exact HI.out)] at hr1
          have R1 := Lib.hid hr1
          clear hr1
          go_wp2
          go_meet
          case rel => exact ⟨⟨32, rfl⟩, R1.out, GJ.out⟩
    case rest =>
      obtain ⟨⟨k8, rfl⟩, rc, gc⟩ := hcut
      rename World => wc
      have hsz3 := HZ3.out
      have hgm2 := HGm.out
      have hg5w := HG5.out
      have XC := Lib.hid (X4.out.trans (grownBelow gc (show w.heap.size ≤ gm by omega) X4.out.size))
      have P5c := Lib.hid (arr_grown P54.out gc (by omega))
      obtain ⟨A5, c5, hv5, s5, hc5⟩ := rc.form2
      have hlm : (H ++ incL D).length = 32 := by rw [List.length_append, HHl.out, incL_len, HDl.out]
      rw [hlm] at hv5 hc5
      cases hv5
      have hs2 := osum_any (some ⟨gm, 0, none⟩) (H ++ incL D) c4 a1 l1 c1 wc s5 (by rw [hlm]; exact hc5) ((HB.out.below XC.out).more XC.out.size) hc1 (by rw [hlm]; decide) hl1
      rw [show sumO (H ++ incL D) l1 = (incL T, 0) by unfold sumO; rw [if_pos hlm, HSh.out], hlm] at hs2
      have HS2 := Lib.hid hs2
      obtain ⟨U, hU⟩ : ∃ U, incL T = U := ⟨_, rfl⟩
      have HU := Lib.hid hU
      have HUl := Lib.hid (show U.length = 16 by rw [← hU, incL_len]; exact HTl.out)
      have NU := Lib.hid (show (Lib.byteCells U).length = 16 by rw [Lib.byteCells_length]; exact HUl.out)
      rw [hU] at HS2
      clear hs2 hU hlm s5 hc5 rc gc X4 P54 R40 HI0 R4 hsz3 hgm2 hg5w
      go_wp2_with fail
      refine HS2.out.mono ?_
      clear HS2
      rintro e w6 ⟨rfl, b6⟩
      have X6 := Lib.hid (XC.out.trans (b6.mono XC.out.size))
      have P56 := Lib.hid (P5c.out.below b6 P5c.out.lt)
      clear b6 XC P5c
      go_upto_region 13 with (show wpList _ _ _ (⟨_, Op.store _ _ _, _, _, _, _⟩ :: _) _ _; refine Arr.storeL (Arr.new w6 _ _) rfl 23 (.tmp 9) (.tmp 46) rfl rfl (Lib.byteCells U) rfl a16_size (by rfl) NU.out (bytes_one _) ?_)
      generalize hw7 : World.setRow _ _ _ = w7
      obtain ⟨p9, b7, z7⟩ := filled hw7
      have X7 := Lib.hid (X6.out.trans (b7.mono X6.out.size))
      have P57 := Lib.hid (P56.out.below b7 P56.out.lt)
      obtain ⟨g9, hg9⟩ : ∃ g, w6.heap.size = g := ⟨_, rfl⟩
      have H59 := Lib.hid (show g5 < g9 by rw [← hg9]; exact P56.out.lt)
      rw [hg9] at p9 ⊢
      have P9 := Lib.hid p9
      clear b7 hw7 p9 hg9 z7 X6 P56
      have HI1 := Lib.hid (IncI.zero T)
      have P50 : Hid (Arr w7 g5 23 (Lib.byteCells (incT T 0))) := Lib.hid (by rw [incT_zero]; exact P57.out)
      clear P57
      go_upto_block 2 with (fail)
      go_cut [48] (fun q wz => (∃ k : Nat, q = .int .i64 (k : Int)) ∧ Arr wz g5 23 (Lib.byteCells U) ∧ w7.grownBy wz (some g5))
      case first =>
        go_wp2_with fail
        go_loopw [48] (fun q wz => ∃ j : Nat, j ≤ 16 ∧ q = .int .i64 (j : Int) ∧ IncI T j ∧ Arr wz g5 23 (Lib.byteCells (incT T j)) ∧ w7.grownBy wz (some g5)) (fun q _ => 16 - (intOf q).toNat)
        case atStart => exact ⟨0, by omega, rfl, HI1.out, P50.out, grownRefl _ _⟩
        case round =>
          obtain ⟨j, hj, rfl, hi, rj, gj⟩ := hrel
          have RJ := Lib.hid rj
          have GJ := Lib.hid gj
          have HI := Lib.hid hi
          clear rj gj hi P50 HI1
          rename World => wx
          by_cases hlt : j < 16
          · have ct : decide ((j : Int) < 16) = true := decide_eq_true (by omega)
            have hjd : j < T.length := by rw [HTl.out]; exact hlt
            have cx := RJ.out.cell j
            rw [bs_getD _ j (by rw [incT_len T j (by omega)]; exact hjd)] at cx
            have hxe : (incT T j).getD j 0 = T[j] := by rw [List.getD_eq_getElem?_getD, List.getElem?_eq_getElem (by rw [incT_len T j (by omega)]; exact hjd), Option.getD_some]; exact incT_at T j hjd
            rw [hxe] at cx
            have fx := RJ.out.frozen j
            have hw := inc_wrap HI.out hjd
            have hs := inc_stop HI.out hjd
            rw [HU.out] at hs
            obtain ⟨x, hx⟩ : ∃ x, T[j] = x := ⟨_, rfl⟩
            rw [hx] at cx hw hs
            obtain ⟨y, hy⟩ : ∃ y, x + 1 = y := ⟨_, rfl⟩
            have wy : IntKind.u8.wrap ((x.toNat : Int) + 1) = (y.toNat : Int) := by rw [← hy, UInt8.toNat_add, IntKind.wrap_u8]; rfl
            rw [hy] at hw hs
            have ij : (j : Int) < 16 := by omega
            have rn := RJ.out.set j (.int .u8 (y.toNat : Int))
            rw [bs_set] at rn
            have gn := grownTrans GJ.out (grownSet wx g5 j (.int .u8 (y.toNat : Int)))
            have RN := Lib.hid rn
            have GN := Lib.hid gn
            have HW := Lib.hid hw
            have HS := Lib.hid hs
            have cy : ((wx.setCell ⟨g5, j, none⟩ (.int .u8 (y.toNat : Int))).cell? ⟨g5, j, none⟩) = some (.int .u8 (y.toNat : Int)) := by
              exact World.cell?_setCell_same' _ _ _ (by rw [cx]; rfl)
            clear hw hs hx hy rn gn hjd hxe
            go_upto_region 17 with (fail)
            obtain ⟨w5, hw5⟩ : ∃ w5, wx.setCell ⟨g5, j, none⟩ (.int .u8 (y.toNat : Int)) = w5 := ⟨_, rfl⟩
            rw [hw5] at cy RN GN ⊢
            clear hw5 cx fx wy
            by_cases h0 : y = 0
            · subst h0
              have t0 : ((((0 : UInt8).toNat : Nat) : Int) != 0) = false := rfl
              have HW2 := Lib.hid (HW.out rfl)
              have hr1 := RN.out
              rw [HW2.out.1] at hr1
              have R1 := Lib.hid hr1
              clear hr1
              go_wp2
              go_roundw
              case rel => exact ⟨j + 1, by omega, by go_num, HW2.out.2, R1.out, GN.out⟩
              case measure => simp [intOf]; omega
            · have t0 : ((y.toNat : Int) != 0) = true := bne_iff_ne.2 (fun h => h0 (UInt8.toNat.inj (by simpa using h)))
              have hr1 := RN.out
              rw [HS.out h0] at hr1
              have R1 := Lib.hid hr1
              clear hr1 h0
              go_wp2
              go_meet
              case rel => exact ⟨⟨j, rfl⟩, R1.out, GN.out⟩
          · obtain rfl : j = 16 := by omega
            have ct : decide (((16 : Nat) : Int) < 16) = false := rfl
            have hr1 := RJ.out
            rw [show (16 : Nat) = T.length from HTl.out.symm, inc_end (by rw [HTl.out]; exact HI.out), HU.out] at hr1
            have R1 := Lib.hid hr1
            clear hr1
            go_wp2
            go_meet
            case rel => exact ⟨⟨16, rfl⟩, R1.out, GJ.out⟩
      case rest =>
        obtain ⟨⟨k9, rfl⟩, p5c, g5c⟩ := hcut
        rename World => wd
        have h59 := H59.out
        have P5d := Lib.hid p5c
        have P9d := Lib.hid (arr_grown P9.out g5c (by omega))
        have XD := Lib.hid (X7.out.trans (grownBelow g5c HG5.out X7.out.size))
        have heq := eql16 U HUl.out wd
        clear p5c g5c h59
        go_wp2_with (first | (show wpList _ _ _ (⟨_, Op.load _ _, _, _, _, _⟩ :: _) _ _; refine ArrL.loadLg P5d.out (by rfl) 23 (.tmp 5) rfl rfl a16 rfl a16_size NU.out ?_) | (show wpList _ _ _ (⟨_, Op.load _ _, _, _, _, _⟩ :: _) _ _; refine ArrL.loadLg P9d.out (by rfl) 23 (.tmp 9) rfl rfl a16 rfl a16_size NU.out ?_))
        go_ret
        exact ⟨rfl, XD.out⟩
  · have hZ : (Lib.byteCells (List.replicate 16 0)).toArray = #[.int .u8 0, .int .u8 0, .int .u8 0, .int .u8 0, .int .u8 0, .int .u8 0, .int .u8 0, .int .u8 0, .int .u8 0, .int .u8 0, .int .u8 0, .int .u8 0, .int .u8 0, .int .u8 0, .int .u8 0, .int .u8 0] := rfl
    rw [show sumO l0 l1 = (List.replicate 16 0, 1) by unfold sumO; rw [if_neg h32]] at hs1
    have N16 := Lib.hid (show (Lib.byteCells (List.replicate 16 (0 : UInt8))).length = 16 from rfl)
    have HBd := Lib.hid zero16
    obtain ⟨Z, hZe⟩ : ∃ Z : List UInt8, List.replicate 16 0 = Z := ⟨_, rfl⟩
    have HZl := Lib.hid (show Z.length = 16 by rw [← hZe]; rfl)
    rw [hZe] at hs1 N16 HBd
    have HS1 := Lib.hid hs1
    clear h32 hZ hZe hs1
    go_wp2_with fail
    refine HS1.out.mono ?_
    clear HS1
    rintro e w2 ⟨rfl, b2⟩
    have X2 := Lib.hid (X1.out.trans (b2.mono X1.out.size))
    clear b2 X1
    go_upto_region 4 with (show wpList _ _ _ (⟨_, Op.store _ _ _, _, _, _, _⟩ :: _) _ _; refine Arr.storeL (Arr.new w2 _ _) rfl 23 (.tmp 5) (.tmp 18) rfl rfl (Lib.byteCells Z) rfl a16_size (by rfl) N16.out (bytes_one _) ?_)
    generalize hw3 : World.setRow _ _ _ = w3
    obtain ⟨p5, b3, z3⟩ := filled hw3
    have X3 := Lib.hid (X2.out.trans (b3.mono X2.out.size))
    have P5 := Lib.hid p5
    obtain ⟨g5, hg5⟩ : ∃ g, w2.heap.size = g := ⟨_, rfl⟩
    rw [hg5] at P5 ⊢
    have heq := eql16 Z HZl.out w3
    clear b3 hw3 p5 hg5 z3
    go_wp2_with (first | (show wpList _ _ _ (⟨_, Op.build _ _, _, _, _, _⟩ :: _) _ _; refine buildL rfl rfl rfl (HBd.out _) ?_) | (show wpList _ _ _ (⟨_, Op.load _ _, _, _, _, _⟩ :: _) _ _; refine Arr.loadL P5.out (by rfl) 23 (.tmp 5) rfl rfl a16 rfl a16_size N16.out ?_))
    go_ret
    exact ⟨rfl, X3.out⟩
end Go.Proofs.Ytooaaacingaapaa.OnetimeShiftL
