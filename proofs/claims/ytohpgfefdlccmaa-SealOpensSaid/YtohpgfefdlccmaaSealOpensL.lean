/-
  The walk of ticketwardlaw.SealOpens: it returns true and writes nothing that was there. Conditions: lengths that fit.
-/
import Derived.Test.YtohpgfefdlccmaaSealFace
import Derived.Test.YtohpgfefdlccmaaSealRefO
import Derived.BigQuiet
namespace Go.Proofs.Ytohpgfefdlccmaa.SealOpensL
open Go.RowKit BytesW SealM SealP SealRefW SealFaceW

set_option maxHeartbeats 8000000 in
set_option maxRecDepth 100000 in
theorem walk (a0 : Option Addr) (l0 : List UInt8) (c0 : Nat) (a1 : Option Addr) (l1 : List UInt8) (c1 : Nat) (a2 : Option Addr) (l2 : List UInt8) (c2 : Nat) (a3 : Option Addr) (l3 : List UInt8) (c3 : Nat) (w : World) (hA : Bs w w.heap.size a0 l0) (hc0 : l0.length ≤ c0) (hl0 : l0.length ≤ 140737488351232) (hB : Bs w w.heap.size a1 l1) (hc1 : l1.length ≤ c1) (hl1 : l1.length ≤ 140737488351232) (hC : Bs w w.heap.size a2 l2) (hc2 : l2.length ≤ c2) (hl2 : l2.length ≤ 140737488351232) (hD : Bs w w.heap.size a3 l3) (hc3 : l3.length ≤ c3) (hl3 : l3.length ≤ 140737488351232) :
    Calls Try.prog 3 #[.slice a0 l0.length c0, .slice a1 l1.length c1, .slice a2 l2.length c2, .slice a3 l3.length c3] w fun e w' => e = .returned (.bool true) ∧ Below w.heap.size w w' := by
  have HA := Lib.hid hA
  have HB := Lib.hid hB
  have HC := Lib.hid hC
  have HD := Lib.hid hD
  obtain ⟨rs, es, hre⟩ : ∃ rs es, sealM l0 l1 l2 l3 = (rs, es) := ⟨_, _, rfl⟩
  obtain ⟨ro, eo, hoe⟩ : ∃ ro eo, openM l0 l1 l2 l3 = (ro, eo) := ⟨_, _, rfl⟩
  have H1 := Lib.hid (fun (V : World) (hV : Below w.heap.size w V) => oseal_any a0 l0 c0 a1 l1 c1 a2 l2 c2 a3 l3 c3 V ((HA.out.below hV).more hV.size) hc0 hl0 ((HB.out.below hV).more hV.size) hc1 hl1 ((HC.out.below hV).more hV.size) hc2 (by omega) ((HD.out.below hV).more hV.size) hc3 hl3)
  have H2 := Lib.hid (fun (V : World) (hV : Below w.heap.size w V) => jseal_any a0 l0 c0 a1 l1 c1 a2 l2 c2 a3 l3 c3 V ((HA.out.below hV).more hV.size) ((HB.out.below hV).more hV.size) ((HC.out.below hV).more hV.size) hc2 ((HD.out.below hV).more hV.size))
  have H3 := Lib.hid (fun (V : World) (hV : Below w.heap.size w V) => oopen_any a0 l0 c0 a1 l1 c1 a2 l2 c2 a3 l3 c3 V ((HA.out.below hV).more hV.size) hc0 hl0 ((HB.out.below hV).more hV.size) hc1 hl1 ((HC.out.below hV).more hV.size) hc2 (by omega) ((HD.out.below hV).more hV.size) hc3 hl3)
  have H4 := Lib.hid (fun (V : World) (hV : Below w.heap.size w V) => jopen_any a0 l0 c0 a1 l1 c1 a2 l2 c2 a3 l3 c3 V ((HA.out.below hV).more hV.size) ((HB.out.below hV).more hV.size) ((HC.out.below hV).more hV.size) hc2 ((HD.out.below hV).more hV.size) hc3 (by omega))
  rw [hre] at H1 H2
  rw [hoe] at H3 H4
  clear hA hB hC hD hre hoe
  go_enter Try.func3, Try.ntmps3
  go_wp2_with fail
  refine (H1.out w (Below.refl _ _)).mono ?_
  clear H1
  rintro e w1 ⟨v1, rfl, r1, b1⟩
  obtain ⟨A1, d1, rfl, s1, -⟩ := r1.form2
  have X1 := Lib.hid b1
  have S1 := Lib.hid s1
  simp only at S1 ⊢
  clear b1 s1 r1
  go_wp2_with fail
  refine (H2.out w1 X1.out).mono ?_
  clear H2
  rintro e w2 ⟨v2, rfl, r2, b2⟩
  obtain ⟨A2, d2, rfl, s2, -⟩ := r2.form2
  have X2 := Lib.hid (X1.out.trans (b2.mono X1.out.size))
  have S2 := Lib.hid s2
  have S12 := Lib.hid ((S1.out.below b2).more b2.size)
  simp only at S2 ⊢
  clear b2 s2 r2 S1
  go_wp2_with fail
  refine (H3.out w2 X2.out).mono ?_
  clear H3
  rintro e w3 ⟨v3, rfl, r3, b3⟩
  obtain ⟨A3, d3, rfl, s3, -⟩ := r3.form2
  have X3 := Lib.hid (X2.out.trans (b3.mono X2.out.size))
  have S3 := Lib.hid s3
  have S13 := Lib.hid ((S12.out.below b3).more b3.size)
  have S23 := Lib.hid ((S2.out.below b3).more b3.size)
  simp only at S3 ⊢
  clear b3 s3 r3 S12 S2
  go_wp2_with fail
  refine (H4.out w3 X3.out).mono ?_
  clear H4
  rintro e w4 ⟨v4, rfl, r4, b4⟩
  obtain ⟨A4, d4, rfl, s4, -⟩ := r4.form2
  have X4 := Lib.hid (X3.out.trans (b4.mono X3.out.size))
  have cv1 := ((S13.out.below b4).more b4.size).conv d1
  have cv2 := ((S23.out.below b4).more b4.size).conv d2
  have cv3 := ((S3.out.below b4).more b4.size).conv d3
  have cv4 := s4.conv d4
  simp only at cv4 ⊢
  clear b4 s4 r4 S13 S23 S3
  go_wp2
  go_ret
  exact ⟨rfl, X4.out⟩
end Go.Proofs.Ytohpgfefdlccmaa.SealOpensL
