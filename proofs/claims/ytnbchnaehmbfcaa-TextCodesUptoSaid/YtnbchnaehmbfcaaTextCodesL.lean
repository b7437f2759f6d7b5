/-
  The walk of ticketwardlaw.TextCodes: it returns true and writes nothing that was there. Conditions: each argument has at most 1048576 bytes.
-/
import Derived.Test.YtnbchnaehmbfcaaTextUncode
import Derived.Test.YtnbchnaehmbfcaaTextCode
import Derived.Test.YtnbchnaehmbfcaaRefCode
import Derived.Test.YtnbchnaehmbfcaaRefUncode
namespace Go.Proofs.Ytnbchnaehmbfcaa.TextCodesL
open Go.RowKit BytesW

set_option maxHeartbeats 4000000 in
set_option maxRecDepth 100000 in
theorem walk (a : Option Addr) (la : List UInt8) (ca : Nat) (s : List UInt8) (w : World) (hA : Bs w w.heap.size a la) (hca : la.length ≤ ca) (hla : la.length ≤ 1048576) (hs : s.length ≤ 1048576) :
    Calls Try.prog 4 #[.slice a la.length ca, .string ⟨s.toArray⟩] w fun e w' => e = .returned (.bool true) ∧ Below w.heap.size w w' := by
  have hsz : (⟨s.toArray⟩ : ByteArray).size ≤ maxLen := by simp [ByteArray.size, maxLen]; omega
  have U1 := Lib.hid fun W => TextUncodeW.uncode_any s W (by unfold maxLen; omega)
  have U2 := Lib.hid fun W => RefUncodeW.uncode_ref ⟨s.toArray⟩ W hsz
  clear hsz hs
  rw [show (⟨s.toArray⟩ : ByteArray).data.toList = s from rfl] at U2
  generalize TextN.uncode s = r at *
  obtain ⟨e0, u⟩ := r
  simp only at U1 U2
  go_enter Try.func4, Try.ntmps4
  go_wp2_with fail
  refine (U1.out w).mono ?_
  rintro e w1 ⟨v1, rfl, r1, b1⟩
  go_wp2_with fail
  refine (U2.out w1).mono ?_
  rintro e w2 ⟨v2, rfl, r2, b2'⟩
  have b2 := b1.trans (b2'.mono b1.size)
  have r1 := r1.below b2'
  obtain ⟨A1, c1, rfl, h1⟩ := r1.form
  obtain ⟨A2, c2, rfl, h2⟩ := r2.form
  have hA2 := (hA.below b2).more b2.size
  have HR := Lib.hid fun W (hW : Below w2.heap.size w2 W) => RefCodeW.code_ref a la ca W ((hA2.below hW).more hW.size) hla
  have C1 := Lib.hid fun (W : World) (hb : Below w2.heap.size w2 W) => (h1.below hb).conv c1
  have C2 := Lib.hid fun (W : World) (hb : Below w2.heap.size w2 W) => (h2.below hb).conv c2
  have HA := Lib.hid (TextCodeW.code_any a la ca w2 hA2 (by omega) hca)
  clear U1 U2 r1 r2 h1 h2 b1 b2' hA hA2
  go_wp2_with fail
  refine HA.out.mono ?_
  rintro e w3 ⟨rfl, b3⟩
  go_wp2_with fail
  refine (HR.out w3 b3).mono ?_
  rintro e w4 ⟨rfl, b4'⟩
  have b4 := b3.trans (b4'.mono b3.size)
  have q1 := C1.out w4 b4
  have q2 := C2.out w4 b4
  go_wp2_with fail
  go_ret
  exact ⟨rfl, b2.trans (b4.mono b2.size)⟩
end Go.Proofs.Ytnbchnaehmbfcaa.TextCodesL
