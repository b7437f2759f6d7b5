/-
  The walk of ticketwardlaw.TextHex: it returns true and writes nothing that was there. Conditions: each argument has at most 1048576 bytes.
-/
import Derived.Test.YtnbchnaehmbfcaaTextHex
import Derived.Test.YtnbchnaehmbfcaaTextUnhex
import Derived.Test.YtnbchnaehmbfcaaTextSameW
import Derived.Test.YtnbchnaehmbfcaaRefHex
import Derived.Test.YtnbchnaehmbfcaaRefUnhex
import Derived.Test.YtnbchnaehmbfcaaQuiet
namespace Go.Proofs.Ytnbchnaehmbfcaa.TextHexL
open Go.RowKit BytesW

theorem hexIn (A : Option Addr) (l : List UInt8) (c : Nat) (w W : World) (hA : Bs w w.heap.size A l) (hl : l.length ≤ 1048576) (hb : Below w.heap.size w W) :
    Calls Try.prog 12 #[.slice A l.length c] W fun e w' => e = .returned (.string ⟨(TextM.hex l).toArray⟩) ∧ Below w.heap.size w w' := by
  refine (TextHexW.hex_any A l c W ((hA.below hb).more hb.size) (by omega)).mono ?_
  rintro e w' ⟨rfl, b⟩
  exact ⟨rfl, hb.trans (b.mono hb.size)⟩

theorem refIn (A : Option Addr) (l : List UInt8) (c : Nat) (w W : World) (hA : Bs w w.heap.size A l) (hl : l.length ≤ 1048576) (hb : Below w.heap.size w W) :
    Calls Try.prog 13 #[.slice A l.length c] W fun e w' => e = .returned (.string ⟨(TextM.hex l).toArray⟩) ∧ Below w.heap.size w w' := by
  refine (RefHexW.hex_ref A l c W ((hA.below hb).more hb.size) (by omega)).mono ?_
  rintro e w' ⟨rfl, b⟩
  exact ⟨rfl, hb.trans (b.mono hb.size)⟩

theorem sameIn (A B : Option Addr) (a b : List UInt8) (c d : Nat) (w W : World) (hA : Bs w w.heap.size A a) (hB : Bs w w.heap.size B b) (hl : a.length ≤ 1048576) (hb : Below w.heap.size w W) :
    Calls Try.prog 14 #[.slice A a.length c, .slice B b.length d] W fun e w' => e = .returned (.bool (a == b)) ∧ Below w.heap.size w w' := by
  refine (TextSameW.same_below A B a b c d W _ _ (hA.below hb) (hB.below hb) (by unfold maxLen; omega)).mono ?_
  rintro e w' ⟨rfl, b⟩
  exact ⟨rfl, hb.trans (b.mono hb.size)⟩

set_option maxHeartbeats 4000000 in
set_option maxRecDepth 100000 in
theorem walk (a : Option Addr) (la : List UInt8) (ca : Nat) (b : Option Addr) (lb : List UInt8) (cb : Nat) (s : List UInt8) (w : World) (hA : Bs w w.heap.size a la) (_ : la.length ≤ ca) (hla : la.length ≤ 1048576) (hB : Bs w w.heap.size b lb) (_ : lb.length ≤ cb) (_ : lb.length ≤ 1048576) (hs : s.length ≤ 1048576) :
    Calls Try.prog 3 #[.slice a la.length ca, .slice b lb.length cb, .string ⟨s.toArray⟩] w fun e w' => e = .returned (.bool true) ∧ Below w.heap.size w w' := by
  have hsz : (⟨s.toArray⟩ : ByteArray).size ≤ maxLen := by simp [ByteArray.size, maxLen]; omega
  have U1 := Lib.hid fun W => TextUnhexW.unhex_any ⟨s.toArray⟩ W hsz
  have U2 := Lib.hid fun W => RefUnhexW.unhex_ref ⟨s.toArray⟩ W hsz
  clear hsz hs
  generalize TextM.unhex (⟨s.toArray⟩ : ByteArray).data.toList = r at *
  obtain ⟨e0, u⟩ := r
  simp only at U1 U2
  go_enter Try.func3, Try.ntmps3
  go_wp2_with fail
  refine (U1.out w).mono ?_
  rintro e w1 ⟨v1, rfl, r1, b1⟩
  go_wp2_with fail
  refine (U2.out w1).mono ?_
  rintro e w2 ⟨v2, rfl, r2, b2'⟩
  have b2 := b1.trans (b2'.mono b1.size)
  have r1 := r1.below b2'
  obtain ⟨A1, c1, rfl, h1⟩ := r1.form
  obtain ⟨A2, c2, rfl, h2⟩ := r2.form
  have HA := Lib.hid fun W hb => hexIn a la ca w2 W ((hA.below b2).more b2.size) hla hb
  have HR := Lib.hid fun W hb => refIn a la ca w2 W ((hA.below b2).more b2.size) hla hb
  have HS := Lib.hid fun W hb => sameIn a b la lb ca cb w2 W ((hA.below b2).more b2.size) ((hB.below b2).more b2.size) hla hb
  have CA := fun x : Ab w2 => ((hA.below b2).more b2.size |>.below x.property).conv ca
  have CB := fun x : Ab w2 => ((hB.below b2).more b2.size |>.below x.property).conv cb
  have C1 := fun x : Ab w2 => (h1.below x.property).conv c1
  have C2 := fun x : Ab w2 => (h2.below x.property).conv c2
  have hne := ab w2
  clear hA hB hla U1 U2 r1 r2 h1 h2 b1 b2'
  go_wp2_with fail
  refine wp_region_cl (by kernel_rfl) (by kernel_rfl) ?_
  repeat (refine wpQuiet_step (fun K hK => ?_); go_simp; first | (refine hK _ ?_; clear hK K) | (apply Exists.intro; refine ⟨fun x => ?_, hK _ ?_⟩; (first | exact call_cl HA.out x | exact call_cl HR.out x | exact call_cl HS.out x); clear hK K))
  refine wpQuiet_nil ?_
  intro W hW
  go_wp2
  go_ret
  exact ⟨rfl, b2.trans (hW.mono b2.size)⟩
end Go.Proofs.Ytnbchnaehmbfcaa.TextHexL
