/-
  The walk of ticketwardkeep.SealAlike: it returns true and writes nothing that was there. Conditions: lengths that fit.
-/
import Derived.Test.YtohpgfefdlccmaaSealAlive
import Derived.Test.YtohpgfefdlccmaaKc
import Derived.Test.YtohpgfefdlccmaaKa
import Derived.Test.YtohpgfefdlccmaaSConcatY
namespace Go.Proofs.Ytohpgfefdlccmaa.SealAlikeL
open Go.RowKit BytesW ArrG SealM SealP SealFaceW RowsW SConcatY

/-- What Seal hands back: all, or nothing and an error. -/
theorem seal_two (key nonce extra b : List UInt8) : sealM key nonce extra b = (sealed key nonce extra b, 0) ∨ ∃ e, e ≠ 0 ∧ sealM key nonce extra b = ([], e) := by
  by_cases h : wrongM key nonce extra b.length = 0
  · left; unfold sealM; rw [if_pos h]
  · right; refine ⟨wrongM key nonce extra b.length, h, ?_⟩; unfold sealM; rw [if_neg h]

set_option maxHeartbeats 8000000 in
set_option maxRecDepth 100000 in
theorem walk (a0 : Option Addr) (l0 : List UInt8) (c0 : Nat) (a1 : Option Addr) (l1 : List UInt8) (c1 : Nat) (a2 : Option Addr) (l2 : List UInt8) (c2 : Nat) (a3 : Option Addr) (l3 : List UInt8) (c3 : Nat) (a4 : Option Addr) (l4 : List UInt8) (c4 : Nat) (w : World) (hA : Bs w w.heap.size a0 l0) (hc0 : l0.length ≤ c0) (hl0 : l0.length ≤ 140737488351232) (hB : Bs w w.heap.size a1 l1) (hc1 : l1.length ≤ c1) (hl1 : l1.length ≤ 140737488351232) (hX : Bs w w.heap.size a2 l2) (hc2 : l2.length ≤ c2) (hl2 : l2.length ≤ 140737488351232) (hC : Bs w w.heap.size a3 l3) (hc3 : l3.length ≤ c3) (hl3 : l3.length ≤ 140737488351232) (hD : Bs w w.heap.size a4 l4) (hc4 : l4.length ≤ c4) (_hl4 : l4.length ≤ 140737488351232) :
    Calls Try.prog 6 #[.slice a0 l0.length c0, .slice a1 l1.length c1, .slice a2 l2.length c2, .slice a3 l3.length c3, .slice a4 l4.length c4] w fun e w' => e = .returned (.bool true) ∧ Below w.heap.size w w' := by
  have HA := Lib.hid hA
  have HB := Lib.hid hB
  have HE := Lib.hid hX
  have HC := Lib.hid hC
  have HD := Lib.hid hD
  clear hA hB hX hC hD
  go_enter Try.func6, Try.ntmps6
  go_wp2_with fail
  refine (SealAliveW.alive_any w).mono ?_
  rintro e w1 ⟨rfl, b1⟩
  have X1 := Lib.hid b1
  clear b1
  go_upto_region 4 with (fail)
  obtain ⟨m, hm, hm3, hm4⟩ : ∃ m : Nat, (if l4.length < l3.length then (l4.length : Int) else (l3.length : Int)) = (m : Int) ∧ m ≤ l3.length ∧ m ≤ l4.length := by
    by_cases h : l4.length < l3.length
    · exact ⟨l4.length, by rw [if_pos h], by omega, Nat.le_refl _⟩
    · exact ⟨l3.length, by rw [if_neg h], Nat.le_refl _, by omega⟩
  rw [hm]
  clear hm
  have im3 : (m : Int) ≤ (c3 : Int) := by omega
  have im4 : (m : Int) ≤ (c4 : Int) := by omega
  obtain ⟨A, hAe⟩ : ∃ A, l3.take m = A := ⟨_, rfl⟩
  obtain ⟨B, hBe⟩ : ∃ B, l4.take m = B := ⟨_, rfl⟩
  have hAl : A.length = m := by rw [← hAe, List.length_take]; omega
  have hBl : B.length = m := by rw [← hBe, List.length_take]; omega
  have HAb : Hid (Bs w w.heap.size a3 A) := Lib.hid (by rw [← hAe]; exact HC.out.take m)
  have HBb : Hid (Bs w w.heap.size a4 B) := Lib.hid (by rw [← hBe]; exact HD.out.take m)
  have HAl := Lib.hid hAl
  have HBl := Lib.hid hBl
  have h5 := oseal_any a0 l0 c0 a1 l1 c1 a2 l2 c2 a3 A c3 w1 ((HA.out.below X1.out).more X1.out.size) hc0 (by omega) ((HB.out.below X1.out).more X1.out.size) hc1 (by omega) ((HE.out.below X1.out).more X1.out.size) hc2 (by omega) ((HAb.out.below X1.out).more X1.out.size) (by omega) (by omega)
  obtain ⟨E, hE⟩ : ∃ E, l2 ++ l2 = E := ⟨_, rfl⟩
  have hEl : E.length ≤ 281474976702464 := by rw [← hE, List.length_append]; omega
  have h6 := fun (V : World) (hV : Below w.heap.size w V) (Ax : Option Addr) (cx : Nat) (hx : Bs V V.heap.size Ax E) (hcx : E.length ≤ cx) => oseal_any a0 l0 c0 a1 l1 c1 Ax E cx a4 B c4 V ((HA.out.below hV).more hV.size) hc0 (by omega) ((HB.out.below hV).more hV.size) hc1 (by omega) hx hcx hEl ((HBb.out.below hV).more hV.size) (by omega) (by omega)
  have hCc := fun (W V : World) (hW : Below w.heap.size w W) (hV : V = W.alloc (.cells #[.slice a2 l2.length c2, .slice a2 l2.length c2] 22)) => concat_far2 W a2 a2 l2 l2 c2 c2 ((HE.out.below hW).more hW.size) ((HE.out.below hW).more hW.size) hc2 hc2 (by omega) W.heap.size (Nat.le_refl _) V hV
  simp only [hE] at hCc
  have HCc := Lib.hid hCc
  obtain ⟨xs, e1, hx⟩ : ∃ bs er, sealM l0 l1 l2 A = (bs, er) := ⟨_, _, rfl⟩
  obtain ⟨ys, e2, hy⟩ : ∃ bs er, sealM l0 l1 E B = (bs, er) := ⟨_, _, rfl⟩
  rw [hx, hAl] at h5
  simp only [hy, hBl] at h6
  have H5 := Lib.hid h5
  have H6 := Lib.hid h6
  have HX := Lib.hid hx
  have HY := Lib.hid hy
  clear h5 h6 hx hy hAl hBl hAe hBe hE hEl hCc
  go_wp2_with fail
  refine H5.out.mono ?_
  clear H5
  rintro e w2 ⟨v5, rfl, r5, b2⟩
  obtain ⟨A5, d5, rfl, s5, hd5⟩ := r5.form2
  have X2 := Lib.hid (X1.out.trans (b2.mono X1.out.size))
  have S5 := Lib.hid s5
  simp only at hd5 S5 ⊢
  clear b2 s5 r5
  go_upto_region 5 with (fail)
  refine Phase.wp_region_phases [([0, 1, 2, 3, 6, 7, 8], [], some 4), ([], [], some 5), ([], [], some 9), ([10, 11, 12, 13, 14], [], none)] (fun W => W = w2.drew) (by kernel_rfl) (by kernel_rfl) (fun _ _ d _ _ h => by cases d <;> exact h) rfl ?_
  refine Phase.g_alone rfl ?_
  iterate 7 (refine Phase.p_step rfl (fun K hK => ?_); go_simp; refine hK _ ?_; clear hK K)
  refine Phase.p_nil (Phase.q_nil ?_)
  rintro _ rfl K hK
  go_simp
  have x3 : Below w.heap.size w w2.drew := X2.out.drew
  obtain ⟨u2, hu2⟩ : ∃ x, w2.drew = x := ⟨_, rfl⟩
  have hV : (w2.alloc (.cells #[.slice a2 l2.length c2, .slice a2 l2.length c2] 22)).drew = u2.alloc (.cells #[.slice a2 l2.length c2, .slice a2 l2.length c2] 22) := by rw [← hu2]; rfl
  obtain ⟨u3, hu3⟩ : ∃ x, (w2.alloc (.cells #[.slice a2 l2.length c2, .slice a2 l2.length c2] 22)).drew = x := ⟨_, rfl⟩
  have hsz : w2.heap.size = u2.heap.size := by rw [← hu2]; rfl
  have hcc := HCc.out u2 u3 (by rw [← hu2]; exact x3) (by rw [← hu3, hV])
  rw [hu3, hsz]
  refine hK _ _ ⟨fun W => W = u3, rfl, ?_⟩
  have BU := Lib.hid (show Below w2.heap.size w2 u2 by rw [← hu2]; exact (Below.refl w2.heap.size w2).drew)
  have XU := Lib.hid (show Below w.heap.size w u2 by rw [← hu2]; exact x3)
  have HC3 := Lib.hid hcc
  clear hK K hcc hV hu3 hu2 hsz x3
  refine Phase.g_alone rfl (Phase.p_nil (Phase.q_nil ?_))
  rintro _ rfl K hK
  go_simp
  refine HC3.out.mono ?_
  clear HC3
  rintro e u4 ⟨A6, d6, rfl, s6, hd6, b6⟩
  refine hK _ _ ⟨fun W => W = u4, rfl, ?_⟩
  have X4 := Lib.hid (XU.out.trans (b6.mono XU.out.size))
  have h7 := H6.out u4 X4.out A6 d6 s6 hd6
  have H7 := Lib.hid h7
  have B24 := Lib.hid b6
  clear hK K h7 H6 s6 hd6 b6
  refine Phase.g_alone rfl (Phase.p_nil (Phase.q_nil ?_))
  rintro _ rfl K hK
  go_simp
  refine H7.out.mono ?_
  clear H7
  rintro e u5 ⟨v7, rfl, r7, b7⟩
  obtain ⟨A7, d7, rfl, s7, hd7⟩ := r7.form2
  simp only at s7 hd7 ⊢
  refine hK _ _ ⟨fun W => W = u5, rfl, ?_⟩
  clear hK K
  refine Phase.g_quiet ?_
  iterate 5 (refine Phase.p_step rfl (fun K hK => ?_); go_simp; refine hK _ ?_; clear hK K)
  refine Phase.p_nil (Phase.q_nil (Phase.g_nil ?_))
  intro wz hz
  rw [show wz = u5 from hz]
  have X5 := Lib.hid (X4.out.trans (b7.mono X4.out.size))
  have b25 := (BU.out.trans (B24.out.mono BU.out.size)).trans (b7.mono (BU.out.trans (B24.out.mono BU.out.size)).size)
  have S55 := Lib.hid ((S5.out.below b25).more b25.size)
  have S7 := Lib.hid s7
  clear hz wz r7 s7 b7 b25 BU B24 XU X4 S5 HCc HE
  have hx := HX.out
  have hy := HY.out
  rcases seal_two l0 l1 l2 A with h1 | ⟨f1, hf1, h1⟩
  · rw [h1] at hx
    obtain ⟨hxs, rfl⟩ : sealed l0 l1 l2 A = xs ∧ e1 = 0 := by cases hx; exact ⟨rfl, rfl⟩
    rcases seal_two l0 l1 E B with h2 | ⟨f2, hf2, h2⟩
    · rw [h2] at hy
      obtain ⟨hys, rfl⟩ : sealed l0 l1 E B = ys ∧ e2 = 0 := by cases hy; exact ⟨rfl, rfl⟩
      obtain ⟨N, hN⟩ : ∃ N, m + 16 = N := ⟨_, rfl⟩
      have hxl : xs.length = N := by rw [← hxs, sealed_len, HAl.out]; exact hN
      have hyl : ys.length = N := by rw [← hys, sealed_len, HBl.out]; exact hN
      have HXl := Lib.hid hxl
      have HYl := Lib.hid hyl
      have HBits := Lib.hid (fun (i : Nat) (ha : i < A.length) (hb : i < B.length) (ha' : i < xs.length) (hb' : i < ys.length) => (show xs[i] ^^^ ys[i] = A[i] ^^^ B[i] by subst hxs; subst hys; exact seal_bits l0 l1 l2 E A B i ha hb ha' hb'))
      rw [hxl] at hd5
      rw [hyl] at hd7
      rw [hxl, hyl]
      have tm : ((N : Int) == (N : Int)) = true := by simp
      have wN : IntKind.i64.wrap ((m : Int) + 16) = (N : Int) := by rw [IntWalk.i64_in _ (by omega)]; omega
      have HNm := Lib.hid hN
      clear hx hy hxs hys HX HY h1 h2 hxl hyl hN
      go_wp2
      go_loopw [66] (fun vk wr => ∃ k : Nat, k ≤ m ∧ vk = .int .i64 (k : Int) ∧ Below u5.heap.size u5 wr) (fun vk _ => m - (intOf vk).toNat)
      case atStart => exact ⟨0, by omega, rfl, Below.refl _ _⟩
      case round =>
        obtain ⟨k, hk, rfl, bx⟩ := hrel
        have BX := Lib.hid bx
        have XR := Lib.hid (X5.out.trans (bx.mono X5.out.size))
        clear bx
        by_cases hlt : k < m
        · have ct : decide ((k : Int) < (m : Int)) = true := decide_eq_true (by omega)
          have hkN : k < N := by have := HNm.out; omega
          obtain ⟨p5, rfl, _, c5⟩ := (S55.out.below BX.out).at_ (k := k) (by rw [HXl.out]; exact hkN)
          obtain ⟨p7, rfl, _, c7⟩ := (S7.out.below BX.out).at_ (k := k) (by rw [HYl.out]; exact hkN)
          obtain ⟨p3, rfl, _, c3'⟩ := (HAb.out.below XR.out).at_ (k := k) (by rw [HAl.out]; exact hlt)
          obtain ⟨p4, rfl, _, c4'⟩ := (HBb.out.below XR.out).at_ (k := k) (by rw [HBl.out]; exact hlt)
          have hbit := HBits.out k (by rw [HAl.out]; exact hlt) (by rw [HBl.out]; exact hlt) (by rw [HXl.out]; exact hkN) (by rw [HYl.out]; exact hkN)
          obtain ⟨x5, h5⟩ : ∃ x, xs[k]'(by rw [HXl.out]; exact hkN) = x := ⟨_, rfl⟩
          obtain ⟨x7, h7⟩ : ∃ x, ys[k]'(by rw [HYl.out]; exact hkN) = x := ⟨_, rfl⟩
          obtain ⟨x3, h3⟩ : ∃ x, A[k]'(by rw [HAl.out]; exact hlt) = x := ⟨_, rfl⟩
          obtain ⟨x4, h4⟩ : ∃ x, B[k]'(by rw [HBl.out]; exact hlt) = x := ⟨_, rfl⟩
          rw [h5] at c5 hbit
          rw [h7] at c7 hbit
          rw [h3] at c3' hbit
          rw [h4] at c4' hbit
          have q1 := Bits.xor_u8 x5 x7
          have q2 := Bits.xor_u8 x3 x4
          rw [← hbit] at q2
          obtain ⟨z, hz⟩ : ∃ z, (((x5 ^^^ x7).toNat : Nat) : Int) = z := ⟨_, rfl⟩
          rw [hz] at q1 q2
          have tz : (z != z) = false := by simp
          have ik : (k : Int) < (N : Int) := by omega
          have ik3 : (k : Int) < (l3.length : Int) := by omega
          have ik4 : (k : Int) < (l4.length : Int) := by omega
          clear h5 h7 h3 h4 hbit hz wN
          go_upto_region 11 with (fail)
          refine Phase.wp_region_phases [([], [0, 1, 2, 3, 4, 5, 6, 7, 8, 9, 10, 11, 12, 13, 14, 15, 16, 17, 18], none)] (fun W => W = wr.drew) (by kernel_rfl) (by kernel_rfl) (fun _ _ d _ _ h => by cases d <;> exact h) rfl ?_
          refine Phase.g_quiet (Phase.p_nil ?_)
          iterate 19 (refine Phase.q_step rfl (fun K hK => ?_); go_simp; refine hK _ ?_; clear hK K)
          refine Phase.q_nil (Phase.g_nil ?_)
          rintro _ rfl
          have BX2 := Lib.hid BX.out.drew
          go_wp2
          go_roundw
          case rel => exact ⟨k + 1, by omega, by go_num, BX2.out⟩
          case measure => simp [intOf]; omega
        · obtain rfl : k = m := by omega
          have ct : decide ((k : Int) < (k : Int)) = false := decide_eq_false (by omega)
          go_wp2
          go_ret
          exact ⟨rfl, XR.out⟩
    · rw [h2] at hy
      obtain ⟨rfl, rfl⟩ : ys = [] ∧ f2 = e2 := by cases hy; exact ⟨rfl, rfl⟩
      have te : (f2 != 0) = true := bne_iff_ne.2 hf2
      clear hx hy hxs HX HY h1 h2 hf2 hd5 hd7
      go_wp2
      go_ret
      exact ⟨rfl, X5.out⟩
  · rw [h1] at hx
    obtain ⟨rfl, rfl⟩ : xs = [] ∧ f1 = e1 := by cases hx; exact ⟨rfl, rfl⟩
    have te : (f1 != 0) = true := bne_iff_ne.2 hf1
    clear hx hy HX HY h1 hf1 hd5 hd7
    go_wp2
    go_ret
    exact ⟨rfl, X5.out⟩
end Go.Proofs.Ytohpgfefdlccmaa.SealAlikeL
