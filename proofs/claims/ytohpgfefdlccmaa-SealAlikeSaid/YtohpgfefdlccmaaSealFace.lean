/-
  seal.Open: what it hands back. Conditions: lengths that fit.
-/
import Derived.Test.YtohpgfefdlccmaaSealSeal
import Derived.Test.YtohpgfefdlccmaaKc
namespace Go.Proofs.Ytohpgfefdlccmaa.SealFaceW
open Go.RowKit BytesW RowsW ArrW ArrG ArrL StreamM StreamSumW OneM OneA16 OneFaceW SealM SealP SealTagW SealFnsW

set_option maxHeartbeats 2000000 in
set_option maxRecDepth 100000 in
theorem oopen_any (A : Option Addr) (key : List UInt8) (c0 : Nat) (A' : Option Addr) (nonce : List UInt8) (c1 : Nat) (A2 : Option Addr) (extra : List UInt8) (c2 : Nat) (A3 : Option Addr) (c : List UInt8) (c3 : Nat) (w : World)
    (hA : Bs w w.heap.size A key) (hc0 : key.length ≤ c0) (hk : key.length ≤ 140737488351232) (hB : Bs w w.heap.size A' nonce) (hc1 : nonce.length ≤ c1) (hn : nonce.length ≤ 140737488351232) (hC : Bs w w.heap.size A2 extra) (_hc2 : extra.length ≤ c2) (_hx : extra.length ≤ 281474976702464) (hD : Bs w w.heap.size A3 c) (hc3 : c.length ≤ c3) (hb : c.length ≤ 140737488351232) :
    Calls Try.prog 9 #[.slice A key.length c0, .slice A' nonce.length c1, .slice A2 extra.length c2, .slice A3 c.length c3] w fun e w' => PostR (openM key nonce extra c) w e w' := by
  have HA := Lib.hid hA
  have HB := Lib.hid hB
  have HC := Lib.hid hC
  have HD := Lib.hid hD
  have hT := tagkey_any A key c0 A' nonce c1 A2 extra c2 ((c.length : Int) - 16) w hA hc0 hk hB hc1 hn
  obtain ⟨r, hr⟩ : ∃ r, openM key nonce extra c = r := ⟨_, rfl⟩
  rw [hr]
  unfold openM at hr
  have wn : IntKind.i64.wrap ((c.length : Int) - 16) = (c.length : Int) - 16 := IntWalk.i64_in _ (by omega)
  by_cases h0 : wrongM key nonce extra ((c.length : Int) - 16) = 0
  · rw [if_pos h0] at hr
    obtain ⟨hk32, hn12, hx16, hb16⟩ := wrong_zero h0
    unfold onceM at hT
    rw [if_pos h0, h0] at hT
    obtain ⟨O, hO⟩ : ∃ O, (block key nonce 0).take 32 = O := ⟨_, rfl⟩
    have hOl : O.length = 32 := by rw [← hO, List.length_take, block_len]; rfl
    rw [hO, hOl] at hT
    by_cases hs : c.length < 16
    · rw [if_pos hs] at hr
      have tn : decide ((c.length : Int) - 16 < 0) = true := decide_eq_true (by omega)
      obtain ⟨n, hne⟩ : ∃ n, (c.length : Int) - 16 = n := ⟨_, rfl⟩
      rw [hne] at hT wn tn
      have HT := Lib.hid hT
      have HR := Lib.hid hr
      clear hA hB hC hD hT hr h0 hk32 hn12 hx16 hb16 hO hOl hs hc0 hc1 hc3 hk hn
      go_enter Try.func9, Try.ntmps9
      go_wp2_with fail
      refine HT.out.mono ?_
      clear HT
      rintro e w1 ⟨a1, d1, rfl, -, -, b1⟩
      have X1 := Lib.hid b1
      clear b1
      go_wp2
      go_ret2
      have hr := HR.out
      subst hr
      exact ⟨_, rfl, Row.nil _ _, X1.out⟩
    · rw [if_neg hs] at hr
      obtain ⟨ad, rfl⟩ : ∃ ad, A3 = some ad := by
        obtain ⟨ad, h, _, _⟩ := HD.out.at_ (k := 0) (by omega)
        exact ⟨ad, h⟩
      obtain ⟨m, hme⟩ : ∃ m, c.length - 16 = m := ⟨_, rfl⟩
      have hmn : (c.length : Int) - 16 = (m : Int) := by omega
      rw [hmn] at hT wn
      rw [hme] at hr
      have tn : decide ((m : Int) < 0) = false := decide_eq_false (by omega)
      have htl : (c.take m).length = m := by rw [List.length_take]; omega
      have hdl : (c.drop m).length = 16 := by rw [List.length_drop]; omega
      have hm16 : m ≤ 16384 := by omega
      have i1 : (m : Int) ≤ (c.length : Int) := by omega
      have i2 : (m : Int) ≤ (c3 : Int) := by omega
      have hne3 : ¬ c3 = m := by omega
      have hsub : c.length - m = 16 := by omega
      have hBt := HD.out.take m
      have hBd : Bs w w.heap.size (some (ad.add m)) (c.drop m) := HD.out.drop m
      have hjt : jtag key nonce extra (c.take m) = tagS O (tagIn extra (c.take m)) := by unfold jtag; rw [hO]
      rw [hjt] at hr
      obtain ⟨t, hte⟩ : ∃ t, c.take m = t := ⟨_, rfl⟩
      obtain ⟨D, hDe⟩ : ∃ D, c.drop m = D := ⟨_, rfl⟩
      rw [hte] at hr hBt htl
      rw [hDe] at hr hBd hdl
      have hmx : mixM key nonce 1 t = (mix key nonce 1 t, 0) := by unfold mixM; rw [if_neg (by omega), if_neg (by omega)]
      have hM := fun (V : World) (hV : Below w.heap.size w V) => smix_row A key c0 A' nonce c1 1 (some ad) t c3 V ((HA.out.below hV).more hV.size) hc0 ((HB.out.below hV).more hV.size) hc1 ((hBt.below hV).more hV.size) (by omega) hk hn (by omega) (by decide) (by decide)
      rw [hmx, htl] at hM
      have hJn := fun (V : World) (hV : Below w.heap.size w V) => join_any A2 extra c2 (some ad) t c3 V ((HC.out.below hV).more hV.size) ((hBt.below hV).more hV.size) (by omega) (by omega)
      rw [htl] at hJn
      have hTl := tagIn_le extra t (by omega) (by omega)
      obtain ⟨T, hTe⟩ : ∃ T, tagIn extra t = T := ⟨_, rfl⟩
      rw [hTe] at hr hTl hJn
      have hck : checkO O T D = (decide (tagS O T = D), 0) := by unfold checkO; rw [if_neg (fun h => h hOl), if_neg (fun h => h hdl)]
      have hCh := fun (V : World) (hV : Below w.heap.size w V) (a1 : Option Addr) (d1 : Nat) (A5 : Option Addr) (c5 : Nat) (h1 : Bs V V.heap.size a1 O) (h2 : 32 ≤ d1) (h3 : Bs V V.heap.size A5 T) (h4 : T.length ≤ c5) => ocheck_any a1 O d1 A5 T c5 (some (ad.add m)) D (c3 - m) V h1 (by omega) h3 h4 ((hBd.below hV).more hV.size) (by omega) (by omega) (by omega) (by omega)
      rw [hck, hOl, hdl] at hCh
      have HT := Lib.hid hT
      have HM := Lib.hid hM
      have HJn := Lib.hid hJn
      have HCh := Lib.hid hCh
      have HR := Lib.hid hr
      have HMn := Lib.hid hmn
      have HSub := Lib.hid hsub
      clear hA hB hC hD hT hr h0 hk32 hn12 hx16 hb16 hO hOl hs hc0 hc1 hc3 hk hn hme hmn hBt hBd hjt hte hDe hmx hM hJn hTl hTe hck hCh htl hdl hm16
      have I1 := Lib.hid i1
      have I2 := Lib.hid i2
      have HNe := Lib.hid hne3
      clear i1 i2 hne3 hsub
      go_enter Try.func9, Try.ntmps9
      go_wp2_with fail
      rw [HMn.out]
      refine HT.out.mono ?_
      clear HT
      rintro e w1 ⟨a1, d1, rfl, hd1, s1, b1⟩
      have X1 := Lib.hid b1
      have S1 := Lib.hid s1
      have HD1 := Lib.hid hd1
      clear b1 s1 hd1
      go_upto_region 7 with (fail)
      have hsub := HSub.out
      have i1 := I1.out
      have i2 := I2.out
      have hne3 := HNe.out
      refine Phase.wp_region_phases [([0, 1, 2, 3, 4, 6, 7, 8], [], some 5), ([], [], some 9), ([10, 11, 12, 13, 14], [], none)] (fun W => W = w1.drew) (by kernel_rfl) (by kernel_rfl) (fun _ _ d _ _ h => by cases d <;> exact h) rfl ?_
      refine Phase.g_alone rfl ?_
      iterate 8 (refine Phase.p_step rfl (fun K hK => ?_); go_simp; refine hK _ ?_; clear hK K)
      refine Phase.p_nil (Phase.q_nil ?_)
      rintro _ rfl K hK
      go_simp
      have x2 : Below w.heap.size w w1.drew := X1.out.drew
      have s2 : Bs w1.drew w1.drew.heap.size a1 O := S1.out.drew
      obtain ⟨w2, hw2⟩ : ∃ x, w1.drew = x := ⟨_, rfl⟩
      rw [hw2] at x2 s2 ⊢
      refine (HJn.out w2 x2).mono ?_
      clear HJn
      rintro e w3 ⟨v3, rfl, r3, b3⟩
      obtain ⟨A5, c5, rfl, s5, hc5⟩ := r3.form2
      refine hK _ _ ⟨fun W => W = w3, rfl, ?_⟩
      have X3 := Lib.hid (x2.trans (b3.mono x2.size))
      have HC3 := Lib.hid (HCh.out w3 X3.out a1 d1 A5 c5 ((s2.below b3).more b3.size) HD1.out s5 hc5)
      clear hK K hw2 x2 s2 r3 b3 s5 hc5 HCh S1
      refine Phase.g_alone rfl (Phase.p_nil (Phase.q_nil ?_))
      rintro _ rfl K hK
      go_simp
      refine HC3.out.mono ?_
      clear HC3
      rintro e w4 ⟨rfl, b4⟩
      simp only
      refine hK _ _ ⟨fun W => W = w4, rfl, ?_⟩
      have X4 := Lib.hid (X3.out.trans (b4.mono X3.out.size))
      clear hK K b4
      refine Phase.g_quiet ?_
      iterate 5 (refine Phase.p_step rfl (fun K hK => ?_); go_simp; refine hK _ ?_; clear hK K)
      refine Phase.p_nil (Phase.q_nil (Phase.g_nil ?_))
      intro wz hz
      rw [show wz = w4 from hz]
      clear hz wz
      by_cases hJD : tagS O T = D
      · have hr := HR.out
        rw [if_pos hJD] at hr
        have HR2 := Lib.hid hr
        rw [decide_eq_true hJD]
        have HM4 := Lib.hid (HM.out w4 X4.out)
        clear HR hr hJD HM
        go_wp2_with fail
        refine HM4.out.mono ?_
        clear HM4
        rintro e w5 ⟨v5, rfl, r5, b5⟩
        have R5 := Lib.hid (r5.base X4.out.size)
        have X5 := Lib.hid (X4.out.trans (b5.mono X4.out.size))
        clear r5 b5
        go_wp2
        go_ret2
        have hr := HR2.out
        subst hr
        exact ⟨_, rfl, R5.out, X5.out⟩
      · have hr := HR.out
        rw [if_neg hJD] at hr
        have HR2 := Lib.hid hr
        rw [decide_eq_false hJD]
        clear HR hr hJD HM
        go_wp2
        go_ret2
        have hr := HR2.out
        subst hr
        exact ⟨_, rfl, Row.nil _ _, X4.out⟩
  · rw [if_neg h0] at hr
    have hn0 : (wrongM key nonce extra ((c.length : Int) - 16) != 0) = true := bne_iff_ne.2 h0
    obtain ⟨z, hz⟩ : ∃ z, wrongM key nonce extra ((c.length : Int) - 16) = z := ⟨_, rfl⟩
    rw [hz] at hT hn0 hr
    obtain ⟨n, hne⟩ : ∃ n, (c.length : Int) - 16 = n := ⟨_, rfl⟩
    rw [hne] at hT wn
    have HT := Lib.hid hT
    have HR := Lib.hid hr
    clear hA hB hC hD hT hr h0 hz hc0 hc1 hc3 hk hn
    go_enter Try.func9, Try.ntmps9
    go_wp2_with fail
    refine HT.out.mono ?_
    clear HT
    rintro e w1 ⟨a1, d1, rfl, -, -, b1⟩
    have X1 := Lib.hid b1
    clear b1
    go_wp2
    go_ret2
    have hr := HR.out
    subst hr
    exact ⟨_, rfl, Row.nil _ _, X1.out⟩
end Go.Proofs.Ytohpgfefdlccmaa.SealFaceW
