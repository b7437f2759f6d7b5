/-
  The walk of ticketwardlaw.OnetimeSums: it returns true and writes nothing that was there. Conditions: lengths that fit.
-/
import Derived.Test.YtooaaacingaapaaOneFace
import Derived.Test.YtooaaacingaapaaOneSum
import Derived.Test.YtooaaacingaapaaOneA16
import Derived.Test.YtooaaacingaapaaKd
namespace Go.Proofs.Ytooaaacingaapaa.OnetimeSumsL
open Go.RowKit BytesW ArrW ArrG OneM OneFaceW OneA16

set_option maxHeartbeats 8000000 in
set_option maxRecDepth 100000 in
theorem walk (a0 : Option Addr) (l0 : List UInt8) (c0 : Nat) (a1 : Option Addr) (l1 : List UInt8) (c1 : Nat) (a2 : Option Addr) (l2 : List UInt8) (c2 : Nat) (w : World) (hA : Bs w w.heap.size a0 l0) (hc0 : l0.length ≤ c0) (hl0 : l0.length ≤ 140737488351232) (hB : Bs w w.heap.size a1 l1) (hc1 : l1.length ≤ c1) (hl1 : l1.length ≤ 140737488351232) (hC : Bs w w.heap.size a2 l2) (hc2 : l2.length ≤ c2) (hl2 : l2.length ≤ 140737488351232) :
    Calls Try.prog 3 #[.slice a0 l0.length c0, .slice a1 l1.length c1, .slice a2 l2.length c2] w fun e w' => e = .returned (.bool true) ∧ Below w.heap.size w w' := by
  have HA := Lib.hid hA
  have HB := Lib.hid hB
  have HC := Lib.hid hC
  have HS := Lib.hid (osum_any a0 l0 c0 a1 l1 c1 w hA hc0 hB hc1 hl0 hl1)
  have HCh := Lib.hid (fun (V : World) (hV : Below w.heap.size w V) => ocheck_any a0 l0 c0 a1 l1 c1 a2 l2 c2 V ((hA.below hV).more hV.size) hc0 ((hB.below hV).more hV.size) hc1 ((hC.below hV).more hV.size) hc2 hl0 hl1 hl2)
  clear hA hB hC
  go_enter Try.func3, Try.ntmps3
  by_cases h32 : l0.length = 32
  · obtain ⟨T, hT⟩ : ∃ T, tagS l0 l1 = T := ⟨_, rfl⟩
    have HTl := Lib.hid (show T.length = 16 by rw [← hT, tagS_len])
    have N16 := Lib.hid (show (Lib.byteCells T).length = 16 by rw [Lib.byteCells_length]; exact HTl.out)
    rw [show sumO l0 l1 = (T, 0) by unfold sumO; rw [if_pos h32, hT]] at HS
    have HIs := Lib.hid (fun (V : World) (hV : Below w.heap.size w V) => OneSumW.isum_any a0 l0 c0 a1 l1 c1 V ((HA.out.below hV).more hV.size) hc0 h32 ((HB.out.below hV).more hV.size) hc1 hl1)
    rw [hT] at HIs
    obtain ⟨ok, er, hck⟩ : ∃ ok er, checkO l0 l1 l2 = (ok, er) := ⟨_, _, rfl⟩
    rw [hck] at HCh
    unfold checkO at hck
    rw [if_neg (by simp [h32]), hT] at hck
    have HCk := Lib.hid hck
    rw [h32] at HS HIs HCh ⊢
    clear hT hck h32 hc0 hl0
    go_wp2_with fail
    refine HS.out.mono ?_
    clear HS
    rintro e w1 ⟨rfl, b1⟩
    have X1 := Lib.hid b1
    clear b1
    go_upto_region 2 with ((refine Arr.storeL (Arr.new w1 _ _) rfl 23 (.tmp 7) (.tmp 16) rfl rfl (Lib.byteCells T) rfl a16_size (by rfl) N16.out (bytes_one _) ?_))
    generalize hw2 : World.setRow _ _ _ = w2
    obtain ⟨p7, b2, z2⟩ := filled hw2
    have X2 := Lib.hid (X1.out.trans (b2.mono X1.out.size))
    have P7 := Lib.hid p7
    obtain ⟨g7, hg7⟩ : ∃ g, w1.heap.size = g := ⟨_, rfl⟩
    rw [hg7] at P7 ⊢
    clear b2 hw2 p7 hg7 z2
    go_wp2_with fail
    refine (HCh.out w2 X2.out).mono ?_
    clear HCh
    rintro e w3 ⟨rfl, b3⟩
    have X3 := Lib.hid (X2.out.trans (b3.mono X2.out.size))
    have P73 := Lib.hid (P7.out.below b3 P7.out.lt)
    clear b3 P7
    go_wp2_with fail
    refine (HIs.out w3 X3.out).mono ?_
    clear HIs
    rintro e w4 ⟨rfl, b4⟩
    have X4 := Lib.hid (X3.out.trans (b4.mono X3.out.size))
    have P74 := Lib.hid (P73.out.below b4 P73.out.lt)
    clear b4 P73
    go_upto_region 6 with (refine Arr.storeL (Arr.new w4 _ _) rfl 23 (.tmp 11) (.tmp 46) rfl rfl (Lib.byteCells T) rfl a16_size (by rfl) N16.out (bytes_one _) ?_)
    generalize hw5 : World.setRow _ _ _ = w5
    obtain ⟨p11, b5, z5⟩ := filled hw5
    have X5 := Lib.hid (X4.out.trans (b5.mono X4.out.size))
    have P11 := Lib.hid p11
    have P75 := Lib.hid (P74.out.below b5 P74.out.lt)
    obtain ⟨g11, hg11⟩ : ∃ g, w4.heap.size = g := ⟨_, rfl⟩
    rw [hg11] at P11 ⊢
    clear b5 hw5 p11 hg11 z5 P74
    have heq := eql16 T HTl.out w5
    by_cases h16 : l2.length = 16
    · have hck := HCk.out
      rw [if_neg (by simp [h16])] at hck
      obtain ⟨rfl, rfl⟩ : ok = decide (T = l2) ∧ er = 0 := by cases hck; exact ⟨rfl, rfl⟩
      have ct : ((l2.length : Int) != 16) = false := by simp; omega
      go_upto_region 10 with (first | (refine ArrL.loadLg P75.out (by rfl) 23 (.tmp 7) rfl rfl a16 rfl a16_size N16.out ?_) | (refine ArrL.loadLg P11.out (by rfl) 23 (.tmp 11) rfl rfl a16 rfl a16_size N16.out ?_))
      have cv1 : ∀ x : Ab w5, (convert 22 9 (.slice (some ⟨g11, 0, none⟩) 16 16)).run Try.prog x.val = .ok (.string ⟨T.toArray⟩) x.val := fun x => by
        have h := ((arr_bs P11.out P11.out.lt).below (Cl.below ⟨x, rfl⟩)).conv 16
        rw [HTl.out] at h
        exact h
      have cv2 : ∀ x : Ab w5, (convert 22 9 (.slice a2 16 c2)).run Try.prog x.val = .ok (.string ⟨l2.toArray⟩) x.val := fun x => by
        have h := (((HC.out.below X5.out).more X5.out.size).below (Cl.below ⟨x, rfl⟩)).conv c2
        rw [h16] at h
        exact h
      have hab := ab w5
      clear heq ct h16
      by_cases hTe : T = l2
      · have dt : decide (T = l2) = true := decide_eq_true hTe
        rw [dt]
        rw [hTe] at cv1
        clear hTe dt
        refine wp_region_tree (.read 0 (.read 1 (.read 2 (.read 3 (.read 4 (.read 5 (.read 6 (.read 7 (.read 8 (.read 9 (.read 10 (.read 11 .done)))))))))))) (fun W => ∃ x : Ab w5, W = x.val) (by kernel_rfl) (by kernel_rfl) (by decide) (fun _ _ d _ _ h => by cases d <;> exact h) (Cl.of (Below.refl _ _).drew) ?_
        iterate 12 (refine tree_read rfl (fun K hK => ?_); go_simp; refine hK _ ?_; clear hK K)
        refine tree_done ?_
        go_wp2
        go_ret
        exact ⟨rfl, X5.out.trans ((Below.refl _ _).drew.mono X5.out.size)⟩
      · have dt : decide (T = l2) = false := decide_eq_false hTe
        have sne : (T == l2) = false := beq_eq_false_iff_ne.2 hTe
        rw [dt]
        clear hTe dt
        refine wp_region_tree (.read 0 (.read 1 (.read 2 (.read 3 (.read 4 (.read 5 (.read 6 (.read 7 (.read 8 (.read 9 (.read 10 (.read 11 .done)))))))))))) (fun W => ∃ x : Ab w5, W = x.val) (by kernel_rfl) (by kernel_rfl) (by decide) (fun _ _ d _ _ h => by cases d <;> exact h) (Cl.of (Below.refl _ _).drew) ?_
        iterate 12 (refine tree_read rfl (fun K hK => ?_); go_simp; refine hK _ ?_; clear hK K)
        refine tree_done ?_
        go_wp2
        go_ret
        exact ⟨rfl, X5.out.trans ((Below.refl _ _).drew.mono X5.out.size)⟩
    · have hck := HCk.out
      rw [if_pos h16] at hck
      obtain ⟨rfl, rfl⟩ : ok = false ∧ er = 8 := by cases hck; exact ⟨rfl, rfl⟩
      have ct : ((l2.length : Int) != 16) = true := by simp; omega
      go_wp2_with (first | (refine ArrL.loadLg P75.out (by rfl) 23 (.tmp 7) rfl rfl a16 rfl a16_size N16.out ?_) | (refine ArrL.loadLg P11.out (by rfl) 23 (.tmp 11) rfl rfl a16 rfl a16_size N16.out ?_))
      go_ret
      exact ⟨rfl, X5.out⟩
  · have hZ : (Lib.byteCells (List.replicate 16 0)).toArray = #[.int .u8 0, .int .u8 0, .int .u8 0, .int .u8 0, .int .u8 0, .int .u8 0, .int .u8 0, .int .u8 0, .int .u8 0, .int .u8 0, .int .u8 0, .int .u8 0, .int .u8 0, .int .u8 0, .int .u8 0, .int .u8 0] := rfl
    rw [show sumO l0 l1 = (List.replicate 16 0, 1) by unfold sumO; rw [if_neg h32]] at HS
    rw [show checkO l0 l1 l2 = (false, 1) by unfold checkO; rw [if_pos h32]] at HCh
    have N16 := Lib.hid (show (Lib.byteCells (List.replicate 16 (0 : UInt8))).length = 16 from rfl)
    have ct : ((l0.length : Int) != 32) = true := by simp; omega
    have HZ := Lib.hid hZ
    clear h32 hZ
    go_wp2_with fail
    refine HS.out.mono ?_
    clear HS
    rintro e w1 ⟨rfl, b1⟩
    have X1 := Lib.hid b1
    clear b1
    obtain ⟨Z, hZe⟩ : ∃ Z : List UInt8, List.replicate 16 0 = Z := ⟨_, rfl⟩
    have HZl := Lib.hid (show Z.length = 16 by rw [← hZe]; rfl)
    rw [hZe] at HZ N16 ⊢
    clear hZe
    go_upto_region 2 with (refine Arr.storeL (Arr.new w1 _ _) rfl 23 (.tmp 7) (.tmp 16) rfl rfl (Lib.byteCells Z) rfl a16_size (by rfl) N16.out (bytes_one _) ?_)
    generalize hw2 : World.setRow _ _ _ = w2
    obtain ⟨p7, b2, z2⟩ := filled hw2
    have X2 := Lib.hid (X1.out.trans (b2.mono X1.out.size))
    have P7 := Lib.hid p7
    obtain ⟨g7, hg7⟩ : ∃ g, w1.heap.size = g := ⟨_, rfl⟩
    rw [hg7] at P7 ⊢
    clear b2 hw2 p7 hg7 z2
    go_wp2_with fail
    refine (HCh.out w2 X2.out).mono ?_
    clear HCh
    rintro e w3 ⟨rfl, b3⟩
    have X3 := Lib.hid (X2.out.trans (b3.mono X2.out.size))
    have P73 := Lib.hid (P7.out.below b3 P7.out.lt)
    have heq := eql16 Z HZl.out w3
    rw [HZ.out] at heq
    clear b3 P7
    go_wp2_with (refine ArrL.loadLg P73.out (by rfl) 23 (.tmp 7) rfl rfl a16 rfl a16_size N16.out ?_; rw [HZ.out])
    go_ret
    exact ⟨rfl, X3.out⟩
end Go.Proofs.Ytooaaacingaapaa.OnetimeSumsL
