/-
  The walk of ticketwardkeep.SealTag: it returns true and writes nothing that was there. Conditions: lengths that fit, a number of its kind.
-/
import Derived.Test.YtohpgfefdlccmaaSealAlive
import Derived.Test.YtohpgfefdlccmaaKc
import Derived.Test.YtohpgfefdlccmaaKa
namespace Go.Proofs.Ytohpgfefdlccmaa.SealTagL
open Go.RowKit BytesW ArrG SealM SealP SealFaceW

theorem wf_i64 {n : Int} (h : (Lit.int .i64 n).wf = true) : -9223372036854775808 ≤ n ∧ n < 9223372036854775808 := by
  have hx : -9223372036854775808 ≤ n ∧ n ≤ 9223372036854775807 := by simpa [Lit.wf, IntKind.min, IntKind.max, IntKind.signed, IntKind.bits] using h
  omega
theorem one_bit (j : Nat) (h : j < 8) : (UInt8.ofNat (2 ^ j)).toNat = 2 ^ j := by
  have : 2 ^ j < 2 ^ 8 := Nat.pow_lt_pow_right (by decide) h
  rw [UInt8.toNat_ofNat', Nat.mod_eq_of_lt this]
theorem bent (x u : UInt8) (h : u ≠ 0) : x ≠ x ^^^ u := by
  intro e
  apply h
  have h1 : x ^^^ x = x ^^^ (x ^^^ u) := congrArg (x ^^^ ·) e
  rw [← UInt8.xor_assoc, UInt8.xor_self, UInt8.zero_xor] at h1
  exact h1.symm

set_option maxHeartbeats 8000000 in
set_option maxRecDepth 100000 in
theorem walk (a0 : Option Addr) (l0 : List UInt8) (c0 : Nat) (a1 : Option Addr) (l1 : List UInt8) (c1 : Nat) (a2 : Option Addr) (l2 : List UInt8) (c2 : Nat) (a3 : Option Addr) (l3 : List UInt8) (c3 : Nat) (n : Int) (w : World) (hA : Bs w w.heap.size a0 l0) (hc0 : l0.length ≤ c0) (hl0 : l0.length ≤ 140737488351232) (hB : Bs w w.heap.size a1 l1) (hc1 : l1.length ≤ c1) (hl1 : l1.length ≤ 140737488351232) (hC : Bs w w.heap.size a2 l2) (hc2 : l2.length ≤ c2) (hl2 : l2.length ≤ 140737488351232) (hD : Bs w w.heap.size a3 l3) (hc3 : l3.length ≤ c3) (hl3 : l3.length ≤ 140737488351232) (hwf : (Lit.int .i64 n).wf = true) :
    Calls Try.prog 5 #[.slice a0 l0.length c0, .slice a1 l1.length c1, .slice a2 l2.length c2, .slice a3 l3.length c3, .int .i64 n] w fun e w' => e = .returned (.bool true) ∧ Below w.heap.size w w' := by
  obtain ⟨hn1, hn2⟩ := wf_i64 hwf
  have HA := Lib.hid hA
  have HB := Lib.hid hB
  have HC := Lib.hid hC
  have HD := Lib.hid hD
  have HS := Lib.hid (fun (V : World) (hV : Below w.heap.size w V) => oseal_any a0 l0 c0 a1 l1 c1 a2 l2 c2 a3 l3 c3 V ((HA.out.below hV).more hV.size) hc0 hl0 ((HB.out.below hV).more hV.size) hc1 hl1 ((HC.out.below hV).more hV.size) hc2 (by omega) ((HD.out.below hV).more hV.size) hc3 hl3)
  have HO := Lib.hid (fun (V : World) (hV : Below w.heap.size w V) (Ax : Option Addr) (m : List UInt8) (cx : Nat) (hx : Bs V V.heap.size Ax m) (hcx : m.length ≤ cx) (hm : m.length ≤ 140737488351232) => oopen_any a0 l0 c0 a1 l1 c1 a2 l2 c2 Ax m cx V ((HA.out.below hV).more hV.size) hc0 hl0 ((HB.out.below hV).more hV.size) hc1 hl1 ((HC.out.below hV).more hV.size) hc2 (by omega) hx hcx hm)
  clear hA hB hC hD hwf
  go_enter Try.func5, Try.ntmps5
  go_wp2_with fail
  refine (SealAliveW.alive_any w).mono ?_
  rintro e w1 ⟨rfl, b1⟩
  have X1 := Lib.hid b1
  clear b1
  have h1 := HS.out w1 X1.out
  by_cases h0 : wrongM l0 l1 l2 l3.length = 0
  · rw [show sealM l0 l1 l2 l3 = (sealed l0 l1 l2 l3, 0) by unfold sealM; rw [if_pos h0]] at h1
    have H1 := Lib.hid h1
    have hsl := sealed_len l0 l1 l2 l3
    have HL := Lib.hid (show l3.length ≤ 16384 by have := (wrong_zero h0).2.2.2; omega)
    have HBe := Lib.hid (open_bent l0 l1 l2 l3 h0)
    have HTa := Lib.hid (show ∀ k, k < 16 → (sealed l0 l1 l2 l3).getD (l3.length + k) 0 = (jtag l0 l1 l2 (StreamM.mix l0 l1 1 l3)).getD k 0 from fun k _ => by
      unfold sealed
      rw [List.getD_eq_getElem?_getD, List.getElem?_append_right (by rw [StreamM.mix_len]; omega), StreamM.mix_len, Nat.add_sub_cancel_left, ← List.getD_eq_getElem?_getD])
    obtain ⟨C, hC⟩ : ∃ C, sealed l0 l1 l2 l3 = C := ⟨_, rfl⟩
    rw [hC] at H1 hsl HBe HTa
    have HSl := Lib.hid hsl
    clear h1 h0 hC hsl HS
    go_wp2_with fail
    refine H1.out.mono ?_
    clear H1
    rintro e w2 ⟨v2, rfl, r2, b2⟩
    obtain ⟨A2, d2, rfl, -, hd2⟩ := r2.form2
    simp only at r2 hd2 ⊢
    have X2 := Lib.hid (X1.out.trans (b2.mono X1.out.size))
    obtain ⟨g, rfl, -, hgm, hgl, -, -⟩ := r2.place (by rw [HSl.out]; omega)
    obtain ⟨N, hN⟩ : ∃ N, C.length = N := ⟨_, rfl⟩
    have hNe : N = l3.length + 16 := by rw [← hN]; exact HSl.out
    have HNe := Lib.hid hNe
    have HN := Lib.hid hN
    have hN16 : decide ((N : Int) < 16) = false := decide_eq_false (by omega)
    have hN16g : decide ((N : Int) ≥ 16) = true := decide_eq_true (by omega)
    rw [hN] at r2 hd2 ⊢
    have R2 := Lib.hid r2
    have HD2 := Lib.hid hd2
    have HGm := Lib.hid (show w.heap.size ≤ g from Nat.le_trans X1.out.size hgm)
    clear b2 r2 hd2 hgm hgl hN hNe
    by_cases hlo : n < 0
    · have t1 : decide (n < 0) = true := decide_eq_true hlo
      clear hlo
      go_wp2
      go_ret
      exact ⟨rfl, X2.out⟩
    · have t1 : decide (n < 0) = false := decide_eq_false hlo
      by_cases hhi : n > 127
      · have t2 : decide (n > 127) = true := decide_eq_true hhi
        clear hlo hhi
        go_wp2
        go_ret
        exact ⟨rfl, X2.out⟩
      · have t2 : decide (n > 127) = false := decide_eq_false hhi
        obtain ⟨t, rfl⟩ : ∃ t : Nat, n = (t : Int) := ⟨n.toNat, by omega⟩
        have ht : t ≤ 127 := by omega
        obtain ⟨k, hk⟩ : ∃ k, t / 8 = k := ⟨_, rfl⟩
        obtain ⟨j, hj⟩ : ∃ j, t % 8 = j := ⟨_, rfl⟩
        obtain ⟨L, hL⟩ : ∃ L, l3.length = L := ⟨_, rfl⟩
        obtain ⟨m, hm⟩ : ∃ m, L + k = m := ⟨_, rfl⟩
        have hk16 : k < 16 := by omega
        have hj8 : j < 8 := by omega
        have hNL : N = L + 16 := by have := HNe.out; omega
        have hLl : L ≤ 16384 := by have := HL.out; omega
        have hta := HTa.out k hk16
        rw [hL, hm] at hta
        have hmC : m < C.length := by rw [HN.out]; omega
        have hat := R2.out.at2 m hmC
        have hgd : C.getD m 0 = C[m] := by rw [List.getD_eq_getElem?_getD, List.getElem?_eq_getElem hmC]; rfl
        rw [← hgd, hta] at hat
        obtain ⟨x, hx⟩ : ∃ x, (jtag l0 l1 l2 (StreamM.mix l0 l1 1 l3)).getD k 0 = x := ⟨_, rfl⟩
        rw [hx] at hat
        have hub := one_bit j hj8
        obtain ⟨u, hu⟩ : ∃ u, UInt8.ofNat (2 ^ j) = u := ⟨_, rfl⟩
        rw [hu] at hub
        have hu0 : u ≠ 0 := by
          intro h
          rw [h] at hub
          have : 0 < 2 ^ j := Nat.pow_pos (by decide)
          have h3 : (0 : UInt8).toNat = 0 := rfl
          omega
        obtain ⟨z, hz⟩ : ∃ z, x ^^^ u = z := ⟨_, rfl⟩
        have hne := bent x u hu0
        rw [hz] at hne
        have hbe := HBe.out k z hk16 (by rw [hx]; exact hne)
        rw [hL, hm] at hbe
        have hxo := Bits.xor_u8 x u
        rw [hz] at hxo
        have wu : IntKind.u8.wrap (2 ^ j) = (u.toNat : Int) := by
          rw [IntKind.wrap_u8, hub]
          have h8 : 2 ^ j < 2 ^ 8 := Nat.pow_lt_pow_right (by decide) hj8
          have e : ((2 ^ j : Nat) : Int) = (2 : Int) ^ j := by rw [Int.natCast_pow]; rfl
          rw [← e]
          have : (2 : Nat) ^ 8 = 256 := by decide
          omega
        rw [← wu] at hxo
        have HXo := Lib.hid hxo
        have rn := (show Row w1.heap.size w2.drew (.slice (some ⟨g, 0, none⟩) N d2) C from R2.out).set2 HN.out m z (z.toNat : Int) rfl rfl
        have bn := X2.out.trans (grownBelow (grownTrans (grownDrew w2 (some g)) (grownSet w2.drew g m (.int .u8 (z.toNat : Int)))) HGm.out X2.out.size)
        have RN := Lib.hid rn
        have BN := Lib.hid bn
        have HBx := Lib.hid hbe
        have HCl := Lib.hid (show (C.set m z).length = N by rw [List.length_set]; exact HN.out)
        have cx := hat.1
        have fx := hat.2
        have d1 : (t : Int).tdiv 8 = (k : Int) := by rw [Int.tdiv_eq_ediv_of_nonneg (by omega)]; omega
        have d2' : (t : Int) / 8 = (k : Int) := by omega
        have m1 : (t : Int).tmod 8 = (j : Int) := by rw [Int.tmod_eq_emod_of_nonneg (by omega)]; omega
        have m2 : (t : Int) % 8 = (j : Int) := by omega
        have wk : IntKind.i64.wrap (k : Int) = (k : Int) := IntWalk.i64_in _ (by omega)
        have wj : IntKind.i64.wrap (j : Int) = (j : Int) := IntWalk.i64_in _ (by omega)
        have wL : IntKind.i64.wrap ((N : Int) - 16) = (L : Int) := by rw [IntWalk.i64_in _ (by omega)]; omega
        have wm : IntKind.i64.wrap ((L : Int) + (k : Int)) = (m : Int) := by rw [IntWalk.i64_in _ (by omega)]; omega
        have im : (m : Int) < (N : Int) := by omega
        have hN64 : N ≤ 20000 := by omega
        clear hta hat hgd hmC hx hu hub hu0 hz hne hbe hxo wu rn bn hm hk hj hlo hhi hNL HNe HL HSl HBe HTa hn1 hn2
        go_upto_region 6 with (fail)
        refine Phase.wp_region_phases [([], [0, 1, 2, 3, 4, 5, 6, 7, 8, 9, 10, 11, 12, 13], some 14)] (fun W => W = w2.drew) (by kernel_rfl) (by kernel_rfl) (fun _ _ d _ _ h => by cases d <;> exact h) rfl ?_
        refine Phase.g_alone rfl (Phase.p_nil ?_)
        iterate 14 (refine Phase.q_step rfl (fun K hK => ?_); go_simp; refine hK _ ?_; clear hK K)
        refine Phase.q_nil ?_
        rintro _ rfl K hK
        go_simp
        rw [HXo.out]
        obtain ⟨w3, hw3⟩ : ∃ x, w2.drew.setCell ⟨g, m, none⟩ (.int .u8 (z.toNat : Int)) = x := ⟨_, rfl⟩
        rw [hw3] at RN BN
        refine hK _ _ ⟨fun W => W = w3, hw3, ?_⟩
        clear hK K hw3 cx fx wL wm
        refine Phase.g_nil ?_
        intro wz hz
        rw [show wz = w3 from hz]
        clear hz
        obtain ⟨A5, c5, hv5, s5, hc5⟩ := RN.out.form2
        rw [HCl.out] at hv5 hc5
        cases hv5
        have hop := HO.out w3 BN.out (some ⟨g, 0, none⟩) (C.set m z) d2 s5 (by rw [HCl.out]; exact hc5) (by rw [HCl.out]; omega)
        rw [HBx.out, HCl.out] at hop
        have HOp := Lib.hid hop
        clear hop s5 hc5
        go_wp2_with fail
        refine HOp.out.mono ?_
        clear HOp
        rintro e w4 ⟨v4, rfl, r4, b4⟩
        obtain ⟨A4, d4, rfl, -, -⟩ := r4.form2
        have X4 := Lib.hid (BN.out.trans (b4.mono BN.out.size))
        simp only at r4 ⊢
        clear r4 b4
        go_wp2
        go_ret
        exact ⟨rfl, X4.out⟩
  · obtain ⟨rs, es, hre⟩ : ∃ rs es, sealM l0 l1 l2 l3 = (rs, es) := ⟨_, _, rfl⟩
    have hes : es ≠ 0 := by
      intro h
      rw [h] at hre
      unfold sealM at hre
      rw [if_neg h0] at hre
      exact h0 (congrArg Prod.snd hre)
    rw [hre] at h1
    have H1 := Lib.hid h1
    have te : (es != 0) = true := bne_iff_ne.2 hes
    clear h1 h0 hre hes
    go_wp2_with fail
    refine H1.out.mono ?_
    clear H1
    rintro e w2 ⟨v2, rfl, r2, b2⟩
    obtain ⟨A2, d2, rfl, -, -⟩ := r2.form2
    have X2 := Lib.hid (X1.out.trans (b2.mono X1.out.size))
    simp only at r2 ⊢
    clear r2 b2
    go_wp2
    go_ret
    exact ⟨rfl, X2.out⟩
end Go.Proofs.Ytohpgfefdlccmaa.SealTagL
