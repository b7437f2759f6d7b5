/-
  ticketwardref.JOpen: what it hands back. Conditions: a length that fits.
-/
import Derived.Test.YtohpgfefdlccmaaSealRef
import Derived.Test.YtohpgfefdlccmaaKd
namespace Go.Proofs.Ytohpgfefdlccmaa.SealRefW
open Go.RowKit BytesW RowsW ArrW ArrG ArrL StreamM StreamMixW OneM OneA16 SealM SealP SealTagW

set_option maxHeartbeats 8000000 in
set_option maxRecDepth 100000 in
theorem jopen_any (A : Option Addr) (key : List UInt8) (c0 : Nat) (A' : Option Addr) (nonce : List UInt8) (c1 : Nat) (A2 : Option Addr) (extra : List UInt8) (c2 : Nat) (A3 : Option Addr) (c : List UInt8) (c3 : Nat) (w : World)
    (hA : Bs w w.heap.size A key) (hB : Bs w w.heap.size A' nonce) (hC : Bs w w.heap.size A2 extra) (hc2 : extra.length ≤ c2) (hD : Bs w w.heap.size A3 c) (hc3 : c.length ≤ c3) (hcl : c.length ≤ 140737488355328) :
    Calls Try.prog 10 #[.slice A key.length c0, .slice A' nonce.length c1, .slice A2 extra.length c2, .slice A3 c.length c3] w fun e w' => PostR (openM key nonce extra c) w e w' := by
  have HA := Lib.hid hA
  have HB := Lib.hid hB
  have HC := Lib.hid hC
  have HD := Lib.hid hD
  have hjw := jwrong_any A key c0 A' nonce c1 A2 extra c2 ((c.length : Int) - 16) w
  obtain ⟨r, hr⟩ : ∃ r, openM key nonce extra c = r := ⟨_, rfl⟩
  rw [hr]
  unfold openM at hr
  have wn : IntKind.i64.wrap ((c.length : Int) - 16) = (c.length : Int) - 16 := IntWalk.i64_in _ (by omega)
  by_cases h0 : wrongM key nonce extra ((c.length : Int) - 16) = 0
  · rw [if_pos h0] at hr
    obtain ⟨hk, hn, hx, hbl⟩ := wrong_zero h0
    rw [h0] at hjw
    have HJ := Lib.hid hjw
    have HK := Lib.hid hk
    have HN := Lib.hid hn
    have HX := Lib.hid hx
    by_cases hs : c.length < 16
    · rw [if_pos hs] at hr
      have tn : decide ((c.length : Int) - 16 < 0) = true := decide_eq_true (by omega)
      obtain ⟨n, hne⟩ : ∃ n, (c.length : Int) - 16 = n := ⟨_, rfl⟩
      rw [hne] at HJ wn tn
      have HR := Lib.hid hr
      clear hA hB hC hD hjw hr h0 hk hn hx hbl hs
      go_enter Try.func10, Try.ntmps10
      go_wp2_with fail
      refine HJ.out.mono ?_
      clear HJ
      rintro e w1 ⟨rfl, rfl⟩
      go_wp2
      go_ret2
      have hr := HR.out
      subst hr
      exact ⟨_, rfl, Row.nil _ _, Below.refl _ _⟩
    · rw [if_neg hs] at hr
      obtain ⟨ad, rfl⟩ : ∃ ad, A3 = some ad := by
        obtain ⟨ad, h, _, _⟩ := HD.out.at_ (k := 0) (by omega)
        exact ⟨ad, h⟩
      obtain ⟨m, hme⟩ : ∃ m, c.length - 16 = m := ⟨_, rfl⟩
      have hmn : (c.length : Int) - 16 = (m : Int) := by omega
      rw [hmn] at HJ wn
      rw [hme] at hr
      have tn : decide ((m : Int) < 0) = false := decide_eq_false (by omega)
      have htl : (c.take m).length = m := by rw [List.length_take]; omega
      have hdl : (c.drop m).length = 16 := by rw [List.length_drop]; omega
      have hm16 : m ≤ 16384 := by omega
      have HL := Lib.hid (show c.length = m + 16 by omega)
      have i1 : (m : Int) ≤ (c.length : Int) := by omega
      have i2 : (m : Int) ≤ (c3 : Int) := by omega
      have hne3 : ¬ c3 = m := by omega
      have hBt := HD.out.take m
      have hBd : Bs w w.heap.size (some (ad.add m)) (c.drop m) := HD.out.drop m
      obtain ⟨T, hT⟩ : ∃ T, c.take m = T := ⟨_, rfl⟩
      obtain ⟨D, hDe⟩ : ∃ D, c.drop m = D := ⟨_, rfl⟩
      rw [hT] at hr hBt htl
      rw [hDe] at hr hBd hdl
      have hjt := fun (V : World) (hV : Below w.heap.size w V) => jtag_any A key c0 A' nonce c1 A2 extra c2 (some ad) T c3 V ((HA.out.below hV).more hV.size) HK.out ((HB.out.below hV).more hV.size) HN.out ((HC.out.below hV).more hV.size) hc2 HX.out ((hBt.below hV).more hV.size) (by omega) (by omega)
      rw [htl] at hjt
      have HJt := Lib.hid hjt
      have HBd := Lib.hid hBd
      have HBt := Lib.hid hBt
      have HTl := Lib.hid htl
      have HDl := Lib.hid hdl
      have HR := Lib.hid hr
      have HSub := Lib.hid (show c.length - m = 16 by omega)
      have I1 := Lib.hid i1
      have I2 := Lib.hid i2
      have HNe := Lib.hid hne3
      have HMn := Lib.hid hmn
      clear hA hB hC hD hjw hr h0 hk hn hx hbl hs hjt hBt hBd hT hDe htl hdl hme hmn i1 i2 hne3
      go_enter Try.func10, Try.ntmps10
      go_wp2_with fail
      rw [HMn.out]
      refine HJ.out.mono ?_
      clear HJ
      rintro e w1 ⟨rfl, rfl⟩
      have cv2 : ∀ x : Ab w, (convert 22 9 (.slice (some (ad.add m)) 16 (c3 - m))).run Try.prog x.val = .ok (.string ⟨D.toArray⟩) x.val := fun x => by
        have h := (HBd.out.below (Cl.below ⟨x, rfl⟩)).conv (c3 - m)
        rw [HDl.out] at h
        exact h
      have hab := ab w
      go_upto_region 7 with (fail)
      have hsub := HSub.out
      have i1 := I1.out
      have i2 := I2.out
      have hne3 := HNe.out
      refine wp_region_tree (.read 0 (.read 1 (.read 2 (.read 3 (.read 4 (.read 5 (.read 8 (.read 9 (.read 10 (.read 11 (.step 6 (.step 7 (.read 12 .done))))))))))))) (fun W => ∃ x : Ab w, W = x.val) (by kernel_rfl) (by kernel_rfl) (by decide) (fun _ _ d _ _ h => by cases d <;> exact h) (Cl.of (Below.refl _ _).drew) ?_
      have x0 := (Below.refl w.heap.size w).drew
      iterate 10 (refine tree_read rfl (fun K hK => ?_); go_simp; refine hK _ ?_; clear hK K)
      obtain ⟨V0, hV0⟩ : ∃ x, w.drew = x := ⟨_, rfl⟩
      rw [hV0] at x0 ⊢
      clear hV0 cv2
      refine tree_step rfl (Cl.of x0) (fun K hK => ?_)
      go_simp
      refine (HJt.out V0 x0).mono ?_
      clear HJt
      rintro e V1 ⟨g, rfl, p1, -, b1⟩
      have x1 := x0.trans (b1.mono x0.size)
      refine hK _ _ ⟨Cl.of x1, ?_⟩
      clear hK K b1
      have hjl := jtag_len key nonce extra T
      have cv1 : (convert 22 9 (.slice (some ⟨g, 0, none⟩) 16 16)).run Try.prog V1 = .ok (.string ⟨(jtag key nonce extra T).toArray⟩) V1 := by
        have h := (arr_bs p1 p1.lt).conv 16
        rw [hjl] at h
        exact h
      obtain ⟨J, hJ⟩ : ∃ J, jtag key nonce extra T = J := ⟨_, rfl⟩
      rw [hJ] at cv1 HR
      clear hjl hJ p1
      have X1 := Lib.hid x1
      by_cases hJD : J = D
      · have hr := HR.out
        rw [if_pos hJD] at hr
        have HR2 := Lib.hid hr
        rw [hJD] at cv1
        clear HR hr hJD
        refine tree_step rfl (Cl.of x1) (fun K hK => ?_)
        go_simp
        refine hK _ _ ⟨Cl.of x1, ?_⟩
        clear hK K cv1 x0
        refine tree_read rfl (fun K hK => ?_); go_simp; refine hK _ ?_; clear hK K
        refine tree_done ?_
        have HM := hmix_any A key c0 A' nonce c1 1 (some ad) T c3 V1 ((HA.out.below X1.out).more X1.out.size) HK.out ((HB.out.below X1.out).more X1.out.size) HN.out ((HBt.out.below X1.out).more X1.out.size) (by rw [HTl.out]; omega) (by decide) (by decide)
        rw [HTl.out] at HM
        have HM2 := Lib.hid HM
        clear HM x1
        go_wp2_with fail
        refine HM2.out.mono ?_
        clear HM2
        rintro e V2 ⟨v, rfl, r2, b2⟩
        have R2 : Hid (Row w.heap.size V2 v (mix key nonce 1 T)) := Lib.hid (r2.base X1.out.size)
        have B2 := Lib.hid (X1.out.trans (b2.mono X1.out.size))
        clear r2 b2
        go_wp2
        go_ret2
        have hr := HR2.out
        subst hr
        exact ⟨_, rfl, R2.out, B2.out⟩
      · have hr := HR.out
        rw [if_neg hJD] at hr
        have HR2 := Lib.hid hr
        have sne : (J == D) = false := beq_eq_false_iff_ne.2 hJD
        clear HR hr hJD
        refine tree_step rfl (Cl.of x1) (fun K hK => ?_)
        go_simp
        refine hK _ _ ⟨Cl.of x1, ?_⟩
        clear hK K cv1 x0
        refine tree_read rfl (fun K hK => ?_); go_simp; refine hK _ ?_; clear hK K
        refine tree_done ?_
        go_wp2
        go_ret2
        have hr := HR2.out
        subst hr
        exact ⟨_, rfl, Row.nil _ _, X1.out⟩
  · rw [if_neg h0] at hr
    have hn0 : (wrongM key nonce extra ((c.length : Int) - 16) != 0) = true := bne_iff_ne.2 h0
    obtain ⟨z, hz⟩ : ∃ z, wrongM key nonce extra ((c.length : Int) - 16) = z := ⟨_, rfl⟩
    rw [hz] at hjw hn0 hr
    obtain ⟨n, hne⟩ : ∃ n, (c.length : Int) - 16 = n := ⟨_, rfl⟩
    rw [hne] at hjw wn
    have HJ := Lib.hid hjw
    have HR := Lib.hid hr
    clear hA hB hC hD hjw hr h0 hz
    go_enter Try.func10, Try.ntmps10
    go_wp2_with fail
    refine HJ.out.mono ?_
    clear HJ
    rintro e w1 ⟨rfl, rfl⟩
    go_wp2
    go_ret2
    have hr := HR.out
    subst hr
    exact ⟨_, rfl, Row.nil _ _, Below.refl _ _⟩
end Go.Proofs.Ytohpgfefdlccmaa.SealRefW
