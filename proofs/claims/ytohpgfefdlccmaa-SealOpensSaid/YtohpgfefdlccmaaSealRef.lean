/-
  ticketwardref.JWrong, JSeal, JOpen: what they hand back. Conditions: lengths in each statement.
-/
import Derived.Test.YtohpgfefdlccmaaSealTagR
import Derived.Test.YtohpgfefdlccmaaSealP
import Derived.Test.YtohpgfefdlccmaaKd
namespace Go.Proofs.Ytohpgfefdlccmaa.SealRefW
open Go.RowKit BytesW RowsW ArrW ArrG ArrL StreamM StreamMixW OneM OneA16 SealM SealP SealTagW

set_option maxHeartbeats 2000000 in
set_option maxRecDepth 100000 in
theorem jwrong_any (A : Option Addr) (key : List UInt8) (c0 : Nat) (A' : Option Addr) (nonce : List UInt8) (c1 : Nat) (A2 : Option Addr) (extra : List UInt8) (c2 : Nat) (n : Int) (w : World) :
    Calls Try.prog 17 #[.slice A key.length c0, .slice A' nonce.length c1, .slice A2 extra.length c2, .int .i64 n] w fun e w' => e = .returned (.int .i64 (wrongM key nonce extra n)) ∧ w = w' := by
  by_cases h1 : key.length = 32
  · have t1 : ((key.length : Int) != 32) = false := by rw [bne_eq_false_iff_eq]; omega
    by_cases h2 : nonce.length = 12
    · have t2 : ((nonce.length : Int) != 12) = false := by rw [bne_eq_false_iff_eq]; omega
      by_cases h3 : 16384 < extra.length
      · have t3 : decide ((extra.length : Int) > 16384) = true := decide_eq_true (by omega)
        rw [show wrongM key nonce extra n = 2 by unfold wrongM; rw [if_neg (by omega), if_pos (by omega)]]
        clear h1 h2 h3
        go_enter Try.func17, Try.ntmps17
        go_wp2
        go_ret
        exact ⟨rfl, rfl⟩
      · have t3 : decide ((extra.length : Int) > 16384) = false := decide_eq_false (by omega)
        by_cases h4 : n > 16384
        · have t4 : decide (n > 16384) = true := decide_eq_true h4
          rw [show wrongM key nonce extra n = 2 by unfold wrongM; rw [if_neg (by omega), if_pos (by omega)]]
          clear h1 h2 h3 h4
          go_enter Try.func17, Try.ntmps17
          go_wp2
          go_ret
          exact ⟨rfl, rfl⟩
        · have t4 : decide (n > 16384) = false := decide_eq_false h4
          rw [show wrongM key nonce extra n = 0 by unfold wrongM; rw [if_neg (by omega), if_neg (by omega)]]
          clear h1 h2 h3 h4
          go_enter Try.func17, Try.ntmps17
          go_wp2
          go_ret
          exact ⟨rfl, rfl⟩
    · have t2 : ((nonce.length : Int) != 12) = true := bne_iff_ne.2 (by omega)
      rw [show wrongM key nonce extra n = 1 by unfold wrongM; rw [if_pos (by omega)]]
      clear h1 h2
      go_enter Try.func17, Try.ntmps17
      go_wp2
      go_ret
      exact ⟨rfl, rfl⟩
  · have t1 : ((key.length : Int) != 32) = true := bne_iff_ne.2 (by omega)
    rw [show wrongM key nonce extra n = 1 by unfold wrongM; rw [if_pos (by omega)]]
    clear h1
    go_enter Try.func17, Try.ntmps17
    go_wp2
    go_ret
    exact ⟨rfl, rfl⟩

theorem wrong_cases (key nonce extra : List UInt8) (n : Int) : wrongM key nonce extra n = 0 ∨ wrongM key nonce extra n = 1 ∨ wrongM key nonce extra n = 2 := by
  unfold wrongM
  split
  · exact Or.inr (Or.inl rfl)
  · split
    · exact Or.inr (Or.inr rfl)
    · exact Or.inl rfl

set_option maxHeartbeats 8000000 in
set_option maxRecDepth 100000 in
theorem jseal_any (A : Option Addr) (key : List UInt8) (c0 : Nat) (A' : Option Addr) (nonce : List UInt8) (c1 : Nat) (A2 : Option Addr) (extra : List UInt8) (c2 : Nat) (A3 : Option Addr) (b : List UInt8) (c3 : Nat) (w : World)
    (hA : Bs w w.heap.size A key) (hB : Bs w w.heap.size A' nonce) (hC : Bs w w.heap.size A2 extra) (hc2 : extra.length ≤ c2) (hD : Bs w w.heap.size A3 b) :
    Calls Try.prog 8 #[.slice A key.length c0, .slice A' nonce.length c1, .slice A2 extra.length c2, .slice A3 b.length c3] w fun e w' => PostR (sealM key nonce extra b) w e w' := by
  have HA := Lib.hid hA
  have HB := Lib.hid hB
  have HC := Lib.hid hC
  have HD := Lib.hid hD
  have hjw := jwrong_any A key c0 A' nonce c1 A2 extra c2 b.length w
  obtain ⟨r, hr⟩ : ∃ r, sealM key nonce extra b = r := ⟨_, rfl⟩
  rw [hr]
  unfold sealM at hr
  by_cases h0 : wrongM key nonce extra b.length = 0
  · rw [if_pos h0] at hr
    obtain ⟨hk, hn, hx, hbl⟩ := wrong_zero h0
    rw [h0] at hjw
    have HJ := Lib.hid hjw
    have HR := Lib.hid hr
    have HK := Lib.hid hk
    have HN := Lib.hid hn
    have HX := Lib.hid hx
    have HBl := Lib.hid (show b.length ≤ 16384 by omega)
    clear hA hB hC hD hjw hr h0 hk hn hx hbl
    go_enter Try.func8, Try.ntmps8
    go_wp2_with fail
    refine HJ.out.mono ?_
    clear HJ
    rintro e w1 ⟨rfl, rfl⟩
    have HM := Lib.hid (hmix_any A key c0 A' nonce c1 1 A3 b c3 w HA.out HK.out HB.out HN.out HD.out (by have := HBl.out; omega) (by decide) (by decide))
    go_wp2_with fail
    refine HM.out.mono ?_
    clear HM
    rintro e w2 ⟨v, rfl, r2, b2⟩
    obtain ⟨A4, c4, rfl, s4, hc4⟩ := r2.form2
    have hml := mix_len key nonce 1 b
    have R2 := Lib.hid r2
    have B2 := Lib.hid b2
    obtain ⟨M, hM⟩ : ∃ M, mix key nonce 1 b = M := ⟨_, rfl⟩
    have hMx : sealed key nonce extra b = M ++ jtag key nonce extra M := by unfold sealed; rw [hM]
    have HMx := Lib.hid hMx
    rw [hM] at R2 s4 hc4 hml ⊢
    have HMl := Lib.hid hml
    have HT := Lib.hid (jtag_any A key c0 A' nonce c1 A2 extra c2 A4 M c4 w2 ((HA.out.below b2).more b2.size) HK.out ((HB.out.below b2).more b2.size) HN.out ((HC.out.below b2).more b2.size) hc2 HX.out s4 hc4 (by rw [hml]; exact HBl.out))
    clear r2 b2 s4 hc4 hml hM hMx
    go_wp2_with fail
    refine HT.out.mono ?_
    clear HT
    rintro e w3 ⟨g, rfl, p3, hg3, b3⟩
    have R3 := Lib.hid (R2.out.below b3)
    have B3 := Lib.hid (B2.out.trans (b3.mono B2.out.size))
    have hjl := jtag_len key nonce extra M
    have S3 := Lib.hid (arr_bs p3 p3.lt)
    obtain ⟨J, hJ⟩ : ∃ J, jtag key nonce extra M = J := ⟨_, rfl⟩
    rw [hJ] at S3 hjl HMx
    have HJl := Lib.hid hjl
    clear p3 hg3 b3 hJ hjl
    go_wp2_with (at_builtin; go_must (refine appN rfl (.tmp 25) (.tmp 30) rfl w.heap.size w3.heap.size _ M rfl R3.out (some ⟨g, 0, none⟩) J 16 (by rw [HJl.out]; rfl) S3.out (by have := HMl.out; have := HBl.out; have := HJl.out; omega) B3.out.size ?_))
    intro v5 w5 r5 b5
    have R5 := Lib.hid r5
    have B5 := Lib.hid (B3.out.trans b5)
    clear r5 b5
    go_wp2
    go_ret2
    have hr := HR.out
    rw [HMx.out] at hr
    subst hr
    exact ⟨_, rfl, R5.out, B5.out⟩
  · rw [if_neg h0] at hr
    have hn0 : (wrongM key nonce extra b.length != 0) = true := bne_iff_ne.2 h0
    obtain ⟨z, hz⟩ : ∃ z, wrongM key nonce extra b.length = z := ⟨_, rfl⟩
    rw [hz] at hjw hn0 hr
    have HJ := Lib.hid hjw
    have HR := Lib.hid hr
    clear hA hB hC hD hjw hr h0 hz
    go_enter Try.func8, Try.ntmps8
    go_wp2_with fail
    refine HJ.out.mono ?_
    clear HJ
    rintro e w1 ⟨rfl, rfl⟩
    go_wp2
    go_ret2
    have hr := HR.out
    subst hr
    exact ⟨_, rfl, Row.nil _ _, Below.refl _ _⟩
end Go.Proofs.Ytohpgfefdlccmaa.SealRefW
