/-
  text.Hex: what it hands back. Conditions: 2 times the length is at most 2^46.
-/
import Derived.Test.YtnbchnaehmbfcaaTextBuf
import Derived.Test.YtnbchnaehmbfcaaBytesW
import Derived.Test.YtnbchnaehmbfcaaTextM
import Derived.WalkKit
import Derived.BigCall
import Derived.Lib.Hide
import Derived.Outline
namespace Go.Proofs.Ytnbchnaehmbfcaa.TextHexW
open Go.RowKit BytesW

set_option maxHeartbeats 2000000 in
set_option maxRecDepth 100000 in
theorem hex_any (A : Option Addr) (l : List UInt8) (c : Nat) (w : World) (hA : Bs w w.heap.size A l) (hl : l.length ≤ 35184372088832) :
    Calls Try.prog 12 #[.slice A l.length c] w fun e w' => e = .returned (.string ⟨(TextM.hex l).toArray⟩) ∧ Below w.heap.size w w' := by
  go_enter Try.func12, Try.ntmps12
  go_wp2_with (go_at_call 22; refine (TextBuf.grow w.heap.size (2 * l.length) w rfl (by omega)).mono ?_)
  rintro e w1 ⟨rfl, h1, b1⟩
  go_wp2
  go_loopw [12] (fun i wr => ∃ k : Nat, k ≤ l.length ∧ i = .int .i64 k ∧ TextBuf.Buf w.heap.size w.heap.size (TextM.hex (l.take k)) wr ∧ Below w.heap.size w wr) (fun i _ => l.length - (intOf i).toNat)
  case atStart => exact ⟨0, Nat.zero_le _, rfl, h1, b1⟩
  case round =>
    obtain ⟨k, hk, rfl, hI, hb⟩ := hrel
    by_cases hlt : k < l.length
    · obtain ⟨ad, rfl, hbl, hc⟩ := (hA.below hb).at_ hlt
      have hx := l[k].toNat_lt
      generalize hc0 : l[k] = c0 at hc hx
      clear hA h1 b1
      have HC := Lib.hid hc0; clear hc0
      go_wp2_with fail
      refine (TextBuf.write w.heap.size w.heap.size _ _ _ rfl wr hI (by rw [TextM.hex_length]; simp; omega) (by have := hb.size; omega)).mono ?_
      rintro e w2 ⟨rfl, h2, b2⟩
      go_wp2_with fail
      refine (TextBuf.write w.heap.size w.heap.size _ _ _ rfl w2 h2 (by rw [List.length_append, TextM.hex_length]; simp; omega) (by have := hb.size; have := b2.size; omega)).mono ?_
      rintro e w3 ⟨rfl, h3, b3⟩
      rw [TextM.digits_at _ (by omega), TextM.digits_at _ (by omega), ← HC.out, ← TextM.hex_take l k hlt] at h3
      go_wp2
      go_roundw
      case rel => exact ⟨k + 1, by omega, by go_num, h3, (hb.trans b2).trans b3⟩
      case measure => simp [intOf]; omega
    · obtain rfl : k = l.length := by omega
      rw [List.take_length] at hI
      go_wp2_with fail
      refine (TextBuf.text w.heap.size w.heap.size _ wr hI (by have := hb.size; omega)).mono ?_
      rintro e w2 ⟨rfl, b2⟩
      go_wp2
      go_ret
      exact ⟨rfl, hb.trans b2⟩
end Go.Proofs.Ytnbchnaehmbfcaa.TextHexW
