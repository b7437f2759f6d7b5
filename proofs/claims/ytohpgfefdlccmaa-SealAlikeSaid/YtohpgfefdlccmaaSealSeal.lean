/-
  seal.Seal: what it hands back. Conditions: lengths that fit.
-/
import Derived.Test.YtohpgfefdlccmaaSealFns
import Derived.Test.YtohpgfefdlccmaaKc
namespace Go.Proofs.Ytohpgfefdlccmaa.SealFaceW
open Go.RowKit BytesW RowsW ArrW ArrG ArrL StreamM StreamSumW OneM OneA16 OneFaceW SealM SealP SealTagW SealFnsW

set_option maxHeartbeats 8000000 in
set_option maxRecDepth 100000 in
theorem oseal_any (A : Option Addr) (key : List UInt8) (c0 : Nat) (A' : Option Addr) (nonce : List UInt8) (c1 : Nat) (A2 : Option Addr) (extra : List UInt8) (c2 : Nat) (A3 : Option Addr) (b : List UInt8) (c3 : Nat) (w : World)
    (hA : Bs w w.heap.size A key) (hc0 : key.length ≤ c0) (hk : key.length ≤ 140737488351232) (hB : Bs w w.heap.size A' nonce) (hc1 : nonce.length ≤ c1) (hn : nonce.length ≤ 140737488351232) (hC : Bs w w.heap.size A2 extra) (_hc2 : extra.length ≤ c2) (_hx : extra.length ≤ 281474976702464) (hD : Bs w w.heap.size A3 b) (hc3 : b.length ≤ c3) (hb : b.length ≤ 140737488351232) :
    Calls Try.prog 7 #[.slice A key.length c0, .slice A' nonce.length c1, .slice A2 extra.length c2, .slice A3 b.length c3] w fun e w' => PostR (sealM key nonce extra b) w e w' := by
  have HA := Lib.hid hA
  have HB := Lib.hid hB
  have HC := Lib.hid hC
  have HD := Lib.hid hD
  have hT := tagkey_any A key c0 A' nonce c1 A2 extra c2 b.length w hA hc0 hk hB hc1 hn
  obtain ⟨r, hr⟩ : ∃ r, sealM key nonce extra b = r := ⟨_, rfl⟩
  rw [hr]
  unfold sealM at hr
  by_cases h0 : wrongM key nonce extra b.length = 0
  · rw [if_pos h0] at hr
    obtain ⟨hk32, hn12, hx16, hb16⟩ := wrong_zero h0
    unfold onceM at hT
    rw [if_pos h0, h0] at hT
    obtain ⟨O, hO⟩ : ∃ O, (block key nonce 0).take 32 = O := ⟨_, rfl⟩
    have hOl : O.length = 32 := by rw [← hO, List.length_take, block_len]; rfl
    rw [hO, hOl] at hT
    have hmx : mixM key nonce 1 b = (mix key nonce 1 b, 0) := by unfold mixM; rw [if_neg (by omega), if_neg (by omega)]
    have hM := fun (V : World) (hV : Below w.heap.size w V) => smix_row A key c0 A' nonce c1 1 A3 b c3 V ((HA.out.below hV).more hV.size) hc0 ((HB.out.below hV).more hV.size) hc1 ((HD.out.below hV).more hV.size) hc3 hk hn hb (by decide) (by decide)
    rw [hmx] at hM
    have hml := mix_len key nonce 1 b
    have hse : sealed key nonce extra b = mix key nonce 1 b ++ tagS O (tagIn extra (mix key nonce 1 b)) := by unfold sealed jtag; rw [hO]
    rw [hse] at hr
    obtain ⟨M, hMe⟩ : ∃ M, mix key nonce 1 b = M := ⟨_, rfl⟩
    rw [hMe] at hr hM hml
    have hMl : M.length ≤ 16384 := by omega
    have htl := tagIn_le extra M (by omega) hMl
    have hJl := tagS_len O (tagIn extra M)
    obtain ⟨T, hTe⟩ : ∃ T, tagIn extra M = T := ⟨_, rfl⟩
    have HTe := Lib.hid hTe
    rw [hTe] at hr htl hJl
    have hsu : sumO O T = (tagS O T, 0) := by unfold sumO; rw [if_pos hOl]
    obtain ⟨J, hJ⟩ : ∃ J, tagS O T = J := ⟨_, rfl⟩
    rw [hJ] at hr hJl hsu
    have HT := Lib.hid hT
    have HM := Lib.hid hM
    have HR := Lib.hid hr
    have HX := Lib.hid (show extra.length ≤ 16384 by omega)
    have HMl := Lib.hid hMl
    have HTl := Lib.hid htl
    have HJl := Lib.hid hJl
    have HOl := Lib.hid hOl
    have HSu := Lib.hid hsu
    have N16 := Lib.hid (show (Lib.byteCells J).length = 16 by rw [Lib.byteCells_length]; exact hJl)
    clear hA hB hC hD hT hr h0 hk32 hn12 hx16 hb16 hO hOl hmx hM hml hse hMe hMl htl hJl hTe hsu hJ hc0 hc1 hc3 hk hn hb
    go_enter Try.func7, Try.ntmps7
    go_wp2_with fail
    refine HT.out.mono ?_
    clear HT
    rintro e w1 ⟨a1, d1, rfl, hd1, s1, b1⟩
    have X1 := Lib.hid b1
    have S1 := Lib.hid s1
    have HD1 := Lib.hid hd1
    have HM1 := Lib.hid (HM.out w1 b1)
    clear b1 s1 hd1 HM
    go_wp2_with fail
    refine HM1.out.mono ?_
    clear HM1
    rintro e w2 ⟨v2, rfl, r2, b2⟩
    obtain ⟨A4, c4, rfl, s4, -⟩ := r2.form2
    have X2 := Lib.hid (X1.out.trans (b2.mono X1.out.size))
    have R2 := Lib.hid (r2.base X1.out.size)
    have S2 := Lib.hid ((S1.out.below b2).more b2.size)
    have hjn := join_any A2 extra c2 A4 M c4 w2 ((HC.out.below X2.out).more X2.out.size) s4 HX.out HMl.out
    rw [HTe.out] at hjn
    have HJn := Lib.hid hjn
    simp only at R2 ⊢
    clear r2 b2 s4 hjn S1 X1
    go_wp2_with fail
    refine HJn.out.mono ?_
    clear HJn
    rintro e w3 ⟨v3, rfl, r3, b3⟩
    obtain ⟨A5, c5, rfl, s5, hc5⟩ := r3.form2
    have X3 := Lib.hid (X2.out.trans (b3.mono X2.out.size))
    have R3 := Lib.hid (R2.out.below b3)
    have hsm := osum_any a1 O d1 A5 T c5 w3 ((S2.out.below b3).more b3.size) (by have := HD1.out; have := HOl.out; omega) s5 hc5 (by have := HOl.out; omega) (by have := HTl.out; omega)
    rw [HSu.out, HOl.out] at hsm
    have HSm := Lib.hid hsm
    clear r3 b3 s5 hc5 hsm S2 X2 R2
    go_wp2_with fail
    refine HSm.out.mono ?_
    clear HSm
    rintro e w4 ⟨rfl, b4⟩
    have X4 := Lib.hid (X3.out.trans (b4.mono X3.out.size))
    have R4 := Lib.hid (R3.out.below b4)
    simp only
    clear b4 X3 R3
    go_upto_region 8 with (show wpList _ _ _ (⟨_, Op.store _ _ _, _, _, _, _⟩ :: _) _ _; refine Arr.storeL (Arr.new w4 _ _) rfl 33 (.tmp 13) (.tmp 42) rfl rfl (Lib.byteCells J) rfl a16_size (by rfl) N16.out (bytes_one _) ?_)
    generalize hw5 : World.setRow _ _ _ = w5
    obtain ⟨a5, b5, z5⟩ := filled hw5
    have X5 := Lib.hid (X4.out.trans (b5.mono X4.out.size))
    have R5 := Lib.hid (R4.out.below b5)
    obtain ⟨p, hp⟩ : ∃ p, w4.heap.size = p := ⟨_, rfl⟩
    rw [hp] at a5 ⊢
    have S5 := Lib.hid (arr_bs a5 a5.lt)
    clear a5 b5 z5 hw5 hp X4 R4
    go_wp2_with (at_builtin; go_must (refine appN rfl (.tmp 47) (.tmp 48) rfl w.heap.size w5.heap.size _ M rfl R5.out (some ⟨p, 0, none⟩) J 16 (by rw [HJl.out]; rfl) S5.out (by have := HMl.out; have := HJl.out; omega) X5.out.size ?_))
    intro v6 w6 r6 b6
    have R6 := Lib.hid r6
    have X6 := Lib.hid (X5.out.trans b6)
    clear r6 b6
    go_wp2
    go_ret2
    have hr := HR.out
    subst hr
    exact ⟨_, rfl, R6.out, X6.out⟩
  · rw [if_neg h0] at hr
    have hn0 : (wrongM key nonce extra b.length != 0) = true := bne_iff_ne.2 h0
    obtain ⟨z, hz⟩ : ∃ z, wrongM key nonce extra b.length = z := ⟨_, rfl⟩
    rw [hz] at hT hn0 hr
    have HT := Lib.hid hT
    have HR := Lib.hid hr
    clear hA hB hC hD hT hr h0 hz hc0 hc1 hc3 hk hn hb
    go_enter Try.func7, Try.ntmps7
    go_wp2_with fail
    refine HT.out.mono ?_
    clear HT
    rintro e w1 ⟨a1, d1, rfl, -, -, b1⟩
    have X1 := Lib.hid b1
    clear b1
    go_wp2
    go_ret2
    have hr := HR.out
    subst hr
    exact ⟨_, rfl, Row.nil _ _, X1.out⟩

end Go.Proofs.Ytohpgfefdlccmaa.SealFaceW
