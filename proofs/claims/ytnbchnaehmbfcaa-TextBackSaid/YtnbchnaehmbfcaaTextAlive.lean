/-
  ticketwardkeep.alive1 returns true, in every world. Conditions: none.
-/
import Derived.Test.YtnbchnaehmbfcaaTextHex
import Derived.Test.YtnbchnaehmbfcaaTextUnhex
import Derived.Test.YtnbchnaehmbfcaaTextSameW
import Derived.Test.YtnbchnaehmbfcaaTextUncode
import Derived.Test.YtnbchnaehmbfcaaTextCode
import Derived.Lib.SlBytesConst
namespace Go.Proofs.Ytnbchnaehmbfcaa.TextAlive
open Go.RowKit BytesW

theorem u1 : TextM.unhex [48, 48, 102, 102, 49, 97] = (0, [0, 255, 26]) := by decide +kernel
theorem u2 : TextN.uncode [65, 80, 56, 97] = (0, [0, 255, 26]) := by
  rw [TextN.uncode, if_neg (by decide), TextN.uncodeF_go _ _ (by simp) (by decide +kernel)]
  rw [show List.drop 4 ([65, 80, 56, 97] : List UInt8) = [] from rfl, TextN.uncodeF_nil]
  decide +kernel
theorem u3 : TextN.uncode [65, 66] = (7, []) := by
  rw [TextN.uncode, if_neg (by decide), TextN.uncodeF_bad _ _ (by simp) (by decide +kernel)]
  decide +kernel
theorem h1 : TextM.hex [97] = [54, 49] := by decide +kernel
theorem c1 : TextN.code [97] = [89, 81] := by decide +kernel

set_option maxHeartbeats 4000000 in
set_option maxRecDepth 100000 in
theorem alive_any (w : World) : Calls Try.prog 19 #[] w fun e w' => e = .returned (.bool true) ∧ Below w.heap.size w w' := by
  have kc := fun (w : World) (C : Array Value) (n c : Nat) => Lib.run_convert_bytes_const (P := Try.prog) w 22 5 C n c Try.underlying22 Try.underlying5
  go_enter Try.func19, Try.ntmps19
  go_wp2_with fail
  refine (TextUnhexW.unhex_any ⟨#[48, 48, 102, 102, 49, 97]⟩ w (by decide)).mono ?_
  rintro e w1 ⟨v1, rfl, r1, b1⟩
  rw [show TextM.unhex (⟨#[48, 48, 102, 102, 49, 97]⟩ : ByteArray).data.toList = (0, [0, 255, 26]) from u1] at r1 ⊢
  go_wp2_with fail
  refine (TextUncodeW.uncode_any [65, 80, 56, 97] w1 (by decide)).mono ?_
  rintro e w2 ⟨v2, rfl, r2, b2⟩
  rw [u2] at r2 ⊢
  go_wp2_with fail
  refine (TextUncodeW.uncode_any [65, 66] w2 (by decide)).mono ?_
  rintro e w3 ⟨v3, rfl, _, b3⟩
  rw [u3]
  have q1 := (r1.below b2).below b3
  have q2 := r2.below b3
  have hbb : Below w.heap.size w w3 := (b1.trans (b2.mono b1.size)).trans (b3.mono (Nat.le_trans b1.size b2.size))
  obtain ⟨A1, k1, rfl, s1⟩ := q1.form
  obtain ⟨A2, k2, rfl, s2⟩ := q2.form
  have cv1 : (convert 22 9 (.slice A1 3 k1)).run Try.prog w3 = .ok (.string ⟨#[0, 255, 26]⟩) w3 := s1.conv k1
  have cv2 : (convert 22 9 (.slice A2 3 k2)).run Try.prog w3 = .ok (.string ⟨#[0, 255, 26]⟩) w3 := s2.conv k2
  clear r1 r2 q1 q2 b1 b2 b3
  go_wp2_with fail
  refine (TextHexW.hex_any (some ⟨w3.heap.size, 0, none⟩) [97] 1 _ (Bs.lit w3 97 97 rfl (1, 2) _ (by simp)) (by decide)).mono ?_
  rintro e w4 ⟨rfl, b4⟩
  rw [h1]
  go_wp2_with fail
  refine (TextCodeW.code_any (some ⟨w4.heap.size, 0, none⟩) [97] 1 _ (Bs.lit w4 97 97 rfl (1, 2) _ (by simp)) (by decide) (by decide)).mono ?_
  rintro e w5 ⟨rfl, b5⟩
  rw [c1]
  simp only [World.size_alloc] at b4 b5
  have hb4 : Below w3.heap.size w3 w4 := ((Below.refl _ w3).alloc (Nat.le_refl _) _).trans (b4.mono (by omega))
  have hb5 : Below w4.heap.size w4 w5 := ((Below.refl _ w4).alloc (Nat.le_refl _) _).trans (b5.mono (by omega))
  have t1 := (s1.below hb4).below (hb5.mono hb4.size)
  have t2 := (s2.below hb4).below (hb5.mono hb4.size)
  clear cv1 cv2 b4 b5 s1 s2
  go_wp2_with fail
  refine (TextSameW.same_any A1 A2 [0, 255, 26] [0, 255, 26] k1 k2 w5 _ _ t1 t2 (by decide)).mono ?_
  rintro e w6 ⟨rfl, n, rfl⟩
  go_wp2
  go_ret
  exact ⟨rfl, drewN ((hbb.trans (hb4.mono hbb.size)).trans (hb5.mono (Nat.le_trans hbb.size hb4.size))) n⟩

end Go.Proofs.Ytnbchnaehmbfcaa.TextAlive
