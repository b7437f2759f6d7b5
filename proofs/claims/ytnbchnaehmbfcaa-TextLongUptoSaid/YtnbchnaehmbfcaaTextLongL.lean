/-
  The walk of ticketwardkeep.TextLong: it returns true and writes nothing that was there. Conditions: the slice has at most 1048576 bytes.
-/
import Derived.Test.YtnbchnaehmbfcaaTextAlive
namespace Go.Proofs.Ytnbchnaehmbfcaa.TextLongL
open Go.RowKit BytesW

set_option maxHeartbeats 4000000 in
set_option maxRecDepth 100000 in
theorem walk (a : Option Addr) (l : List UInt8) (c : Nat) (w : World) (hA : Bs w w.heap.size a l) (hc : l.length ≤ c) (hl : l.length ≤ 1048576) :
    Calls Try.prog 6 #[.slice a l.length c] w fun e w' => e = .returned (.bool true) ∧ Below w.heap.size w w' := by
  have e1 := TextM.hex_length l
  have e2 := TextN.code_length l
  have H1 := Lib.hid e1
  have H2 := Lib.hid e2
  clear e1 e2
  go_enter Try.func6, Try.ntmps6
  go_wp2_with fail
  refine (TextAlive.alive_any w).mono ?_
  rintro e w1 ⟨rfl, b1⟩
  have hA1 := (hA.below b1).more b1.size
  go_wp2_with fail
  refine (TextHexW.hex_any a l c w1 hA1 (by omega)).mono ?_
  rintro e w2 ⟨rfl, b2⟩
  have b3 := b1.trans (b2.mono b1.size)
  have hA2 := (hA.below b3).more b3.size
  generalize TextM.hex l = x at *
  have ht : ((x.length : Int) == 2 * (l.length : Int)) = true := beq_iff_eq.2 (by have := H1.out; omega)
  go_wp2_with fail
  refine (TextCodeW.code_any a l c w2 hA2 (by omega) hc).mono ?_
  rintro e w3 ⟨rfl, b4⟩
  generalize TextN.code l = y at *
  have ht2 : ((y.length : Int) == (4 * (l.length : Int) + 2) / 3) = true := beq_iff_eq.2 (by have := H2.out; omega)
  go_wp2
  go_ret
  exact ⟨rfl, b3.trans (b4.mono b3.size)⟩
end Go.Proofs.Ytnbchnaehmbfcaa.TextLongL
