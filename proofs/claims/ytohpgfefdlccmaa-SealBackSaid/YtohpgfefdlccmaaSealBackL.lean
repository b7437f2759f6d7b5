/-
  The walk of ticketwardkeep.SealBack: it returns true and writes nothing that was there. Conditions: lengths that fit.
-/
import Derived.Test.YtohpgfefdlccmaaSealAlive
namespace Go.Proofs.Ytohpgfefdlccmaa.SealBackL
open Go.RowKit BytesW SealM SealP SealFaceW

set_option maxHeartbeats 8000000 in
set_option maxRecDepth 100000 in
theorem walk (a0 : Option Addr) (l0 : List UInt8) (c0 : Nat) (a1 : Option Addr) (l1 : List UInt8) (c1 : Nat) (a2 : Option Addr) (l2 : List UInt8) (c2 : Nat) (a3 : Option Addr) (l3 : List UInt8) (c3 : Nat) (w : World) (hA : Bs w w.heap.size a0 l0) (hc0 : l0.length ≤ c0) (hl0 : l0.length ≤ 140737488351232) (hB : Bs w w.heap.size a1 l1) (hc1 : l1.length ≤ c1) (hl1 : l1.length ≤ 140737488351232) (hC : Bs w w.heap.size a2 l2) (hc2 : l2.length ≤ c2) (hl2 : l2.length ≤ 140737488351232) (hD : Bs w w.heap.size a3 l3) (hc3 : l3.length ≤ c3) (hl3 : l3.length ≤ 140737488351232) :
    Calls Try.prog 4 #[.slice a0 l0.length c0, .slice a1 l1.length c1, .slice a2 l2.length c2, .slice a3 l3.length c3] w fun e w' => e = .returned (.bool true) ∧ Below w.heap.size w w' := by
  have HA := Lib.hid hA
  have HB := Lib.hid hB
  have HC := Lib.hid hC
  have HD := Lib.hid hD
  have HS := Lib.hid (fun (V : World) (hV : Below w.heap.size w V) (Ax : Option Addr) (m : List UInt8) (cx : Nat) (hx : Bs V V.heap.size Ax m) (hcx : m.length ≤ cx) (hm : m.length ≤ 140737488351232) => oseal_any a0 l0 c0 a1 l1 c1 a2 l2 c2 Ax m cx V ((HA.out.below hV).more hV.size) hc0 hl0 ((HB.out.below hV).more hV.size) hc1 hl1 ((HC.out.below hV).more hV.size) hc2 (by omega) hx hcx hm)
  have HO := Lib.hid (fun (V : World) (hV : Below w.heap.size w V) (Ax : Option Addr) (m : List UInt8) (cx : Nat) (hx : Bs V V.heap.size Ax m) (hcx : m.length ≤ cx) (hm : m.length ≤ 140737488351232) => oopen_any a0 l0 c0 a1 l1 c1 a2 l2 c2 Ax m cx V ((HA.out.below hV).more hV.size) hc0 hl0 ((HB.out.below hV).more hV.size) hc1 hl1 ((HC.out.below hV).more hV.size) hc2 (by omega) hx hcx hm)
  have HDv := Lib.hid (fun (V : World) (hV : Below w.heap.size w V) => (HD.out.below hV).more hV.size)
  clear hA hB hC hD
  go_enter Try.func4, Try.ntmps4
  go_wp2_with fail
  refine (SealAliveW.alive_any w).mono ?_
  rintro e w1 ⟨rfl, b1⟩
  have X1 := Lib.hid b1
  clear b1
  have h1 := HS.out w1 X1.out a3 l3 c3 (HDv.out w1 X1.out) hc3 hl3
  by_cases h0 : wrongM l0 l1 l2 l3.length = 0
  · rw [show sealM l0 l1 l2 l3 = (sealed l0 l1 l2 l3, 0) by unfold sealM; rw [if_pos h0]] at h1
    have H1 := Lib.hid h1
    have HSl := Lib.hid (sealed_len l0 l1 l2 l3)
    have HOp := Lib.hid (open_sealed l0 l1 l2 l3 h0)
    have HL := Lib.hid (show l3.length ≤ 16384 by have := (wrong_zero h0).2.2.2; omega)
    obtain ⟨C, hC⟩ : ∃ C, sealed l0 l1 l2 l3 = C := ⟨_, rfl⟩
    rw [hC] at H1 HSl HOp
    clear h1 h0 hC
    go_wp2_with fail
    refine H1.out.mono ?_
    clear H1
    rintro e w2 ⟨v2, rfl, r2, b2⟩
    obtain ⟨A2, d2, rfl, s2, hd2⟩ := r2.form2
    simp only at s2 hd2 ⊢
    have X2 := Lib.hid (X1.out.trans (b2.mono X1.out.size))
    have h3 := HO.out w2 X2.out A2 C d2 s2 hd2 (by rw [HSl.out]; have := HL.out; omega)
    rw [HOp.out] at h3
    have H3 := Lib.hid h3
    clear h3 s2 hd2 r2 b2
    go_wp2_with fail
    refine H3.out.mono ?_
    clear H3
    rintro e w3 ⟨v3, rfl, r3, b3⟩
    obtain ⟨A3, d3, rfl, s3, -⟩ := r3.form2
    simp only at s3 ⊢
    have X3 := Lib.hid (X2.out.trans (b3.mono X2.out.size))
    have S3 := Lib.hid s3
    have h4 := HO.out w3 X3.out a3 l3 c3 (HDv.out w3 X3.out) hc3 hl3
    obtain ⟨ro, eo, hoe⟩ : ∃ ro eo, openM l0 l1 l2 l3 = (ro, eo) := ⟨_, _, rfl⟩
    rw [hoe] at h4
    have HOe := Lib.hid hoe
    have H4 := Lib.hid h4
    clear h4 s3 r3 b3 hoe
    go_wp2_with fail
    refine H4.out.mono ?_
    clear H4
    rintro e w4 ⟨v4, rfl, r4, b4⟩
    obtain ⟨A4, d4, rfl, s4, hd4⟩ := r4.form2
    simp only at s4 hd4 ⊢
    have X4 := Lib.hid (X3.out.trans (b4.mono X3.out.size))
    have S4 := Lib.hid s4
    have HD4 := Lib.hid hd4
    have cvx := ((S3.out.below b4).more b4.size).conv d3
    have cvb := (HDv.out w4 X4.out).conv c3
    obtain ⟨N, hN⟩ : ∃ N, C.length = N := ⟨_, rfl⟩
    have hNe : N = l3.length + 16 := by rw [← hN]; exact HSl.out
    have wN : IntKind.i64.wrap ((l3.length : Int) + 16) = (N : Int) := by rw [IntWalk.i64_in _ (by omega)]; omega
    rw [hN]
    clear r4 s4 hd4 b4 hN hNe
    by_cases he : eo = 0
    · subst he
      have hso := seal_opened l0 l1 l2 l3 ro HOe.out
      have hrl : ro.length ≤ 140737488351232 := by
        unfold sealM at hso
        split at hso
        · rename_i hw
          have := (wrong_zero hw).2.2.2
          omega
        · rename_i hw
          exact absurd (congrArg Prod.snd hso) hw
      have h5 := HS.out w4 X4.out A4 ro d4 S4.out HD4.out hrl
      rw [hso] at h5
      have H5 := Lib.hid h5
      clear h5 hso hrl
      go_wp2_with fail
      refine H5.out.mono ?_
      clear H5
      rintro e w5 ⟨v5, rfl, r5, b5⟩
      obtain ⟨A5, d5, rfl, s5, -⟩ := r5.form2
      simp only at s5 ⊢
      have X5 := Lib.hid (X4.out.trans (b5.mono X4.out.size))
      have cvd := s5.conv d5
      have cvb5 := (HDv.out w5 X5.out).conv c3
      clear r5 s5 b5 cvx cvb
      go_wp2
      go_ret
      exact ⟨rfl, X5.out⟩
    · have te : (eo != 0) = true := bne_iff_ne.2 he
      have hf := open_fst l0 l1 l2 l3 (by rw [HOe.out]; exact he)
      rw [HOe.out] at hf
      have hf2 : ro = [] := hf
      subst hf2
      clear hf he HOe S4 HD4
      go_wp2
      go_ret
      exact ⟨rfl, X4.out⟩
  · have hs := seal_fst l0 l1 l2 l3 (by unfold sealM; rw [if_neg h0]; exact h0)
    obtain ⟨rs, es, hre⟩ : ∃ rs es, sealM l0 l1 l2 l3 = (rs, es) := ⟨_, _, rfl⟩
    have hes : es ≠ 0 := by
      intro h
      rw [h] at hre
      unfold sealM at hre
      rw [if_neg h0] at hre
      exact h0 (congrArg Prod.snd hre)
    rw [hre] at hs h1
    have hs2 : rs = [] := hs
    subst hs2
    have H1 := Lib.hid h1
    have te : (es != 0) = true := bne_iff_ne.2 hes
    clear hs h1 h0 hre hes
    go_wp2_with fail
    refine H1.out.mono ?_
    clear H1
    rintro e w2 ⟨v2, rfl, r2, b2⟩
    obtain ⟨A2, d2, rfl, s2, -⟩ := r2.form2
    simp only at s2 ⊢
    have X2 := Lib.hid (X1.out.trans (b2.mono X1.out.size))
    clear s2 r2 b2
    go_wp2
    go_ret
    exact ⟨rfl, X2.out⟩
end Go.Proofs.Ytohpgfefdlccmaa.SealBackL
