/-
  The walk of ticketwardkeep.TextParts: it returns true and writes nothing that was there. Conditions: the slices have at most 1048576 bytes.
-/
import Derived.Test.YtnbchnaehmbfcaaTextAlive
import Derived.Test.YtnbchnaehmbfcaaBytesX
namespace Go.Proofs.Ytnbchnaehmbfcaa.TextPartsL
open Go.RowKit BytesW

theorem code_append (a b : List UInt8) (h : a.length % 3 = 0) : TextN.code (a ++ b) = TextN.code a ++ TextN.code b := by
  induction a using TextN.code.induct with
  | case1 x y z r ih =>
    have := ih (by simp at h; omega)
    simp [TextN.code, this]
  | case2 x y => simp at h
  | case3 x => simp at h
  | case4 => rfl

def x_len (la lb : List UInt8) : Prop := (TextM.hex la).length + (TextM.hex lb).length ≤ 9223372036854775807 ∧ (TextN.code la).length + (TextN.code lb).length ≤ 9223372036854775807

set_option maxHeartbeats 4000000 in
set_option maxRecDepth 100000 in
theorem walk (a : Option Addr) (la : List UInt8) (ca : Nat) (b : Option Addr) (lb : List UInt8) (cb : Nat) (w : World) (hA : Bs w w.heap.size a la) (hca : la.length ≤ ca) (hla : la.length ≤ 1048576) (hB : Bs w w.heap.size b lb) (hcb : lb.length ≤ cb) (hlb : lb.length ≤ 1048576) :
    Calls Try.prog 7 #[.slice a la.length ca, .slice b lb.length cb] w fun e w' => e = .returned (.bool true) ∧ Below w.heap.size w w' := by
  go_enter Try.func7, Try.ntmps7
  go_wp2_with fail
  refine (TextAlive.alive_any w).mono ?_
  rintro e w1 ⟨rfl, b1⟩
  have hs1 := b1.size
  have r0 := Row.empty w.heap.size w1 hs1
  have b2 := b1.alloc hs1 (.cells #[] 5)
  have hA2 := hA.below b2
  have hs2 := b2.size
  have hl2 : ([] : List UInt8).length + la.length ≤ 140737488355328 := by simp; omega
  have hl3 : la.length + lb.length ≤ 140737488355328 := by omega
  go_wp2_with (first
    | (at_builtin; refine appN rfl (.tmp 8) (.tmp 9) rfl w.heap.size _ _ [] rfl r0 a la ca rfl hA2 hl2 hs2 ?_; intro v3 w3 r3 b3'; have b3 := b2.trans b3'; have hB3 := hB.below b3; have hs3 := b3.size; rw [List.nil_append] at r3)
    | (at_builtin; refine appN rfl (.tmp 10) (.tmp 11) rfl w.heap.size _ _ la rfl r3 b lb cb rfl hB3 hl3 hs3 ?_; intro v4 w4 r4 b4'))
  have b5 := b3.trans b4'
  obtain ⟨A4, c4, rfl, s4, k4⟩ := r4.form2
  have hc4 : (la ++ lb).length ≤ 2097152 := by rw [List.length_append]; omega
  have HH := Lib.hid (TextM.hex_append la lb)
  clear hA2 hB3 r0 r3 b2 b3 b3' b4' hl2 hl3 hs2 hs3
  have hs5 := b5.size
  have hAll := Lib.hid (TextHexW.hex_any A4 (la ++ lb) c4 w4 s4 (by omega))
  go_wp2_with fail
  refine hAll.out.mono ?_
  rintro e w5 ⟨rfl, b6⟩
  have b7 := b5.trans (b6.mono hs5)
  have hA5 := (hA.below b7).more b7.size
  go_wp2_with fail
  refine (TextHexW.hex_any a la ca w5 hA5 (by omega)).mono ?_
  rintro e w6 ⟨rfl, b8⟩
  have b9 := b7.trans (b8.mono b7.size)
  have hB6 := (hB.below b9).more b9.size
  go_wp2_with fail
  refine (TextHexW.hex_any b lb cb w6 hB6 (by omega)).mono ?_
  rintro e w7 ⟨rfl, b10⟩
  have b11 := b9.trans (b10.mono b9.size)
  have b12 := b6.trans ((b8.mono b6.size).trans (b10.mono (Nat.le_trans b6.size b8.size)))
  have s7 := (s4.below b12).more b12.size
  have hl7 : x_len la lb := ⟨by rw [TextM.hex_length, TextM.hex_length]; omega, by rw [TextN.code_length, TextN.code_length]; omega⟩
  have hcode := Lib.hid (TextCodeW.code_any A4 (la ++ lb) c4 w7 s7 (by omega) k4)
  have hA7 := (hA.below b11).more b11.size
  have hB7 := (hB.below b11).more b11.size
  have hcodeA := Lib.hid (fun W (hW : Below w7.heap.size w7 W) => TextCodeW.code_any a la ca W (hA7.below hW |>.more hW.size) (by omega) hca)
  have hcodeB := Lib.hid (fun W (hW : Below w7.heap.size w7 W) => TextCodeW.code_any b lb cb W (hB7.below hW |>.more hW.size) (by omega) hcb)
  rw [List.length_append] at hcode
  obtain ⟨hx1, hx2⟩ := hl7
  by_cases h3 : la.length % 3 = 0
  · have ht : ((la.length : Int) % 3 != 0) = false := by simp; omega
    have HC := Lib.hid (code_append la lb h3)
    generalize TextM.hex (la ++ lb) = X at *
    generalize TextM.hex la = x at *
    generalize TextM.hex lb = y at *
    generalize TextN.code (la ++ lb) = Z at *
    generalize TextN.code la = z1 at *
    generalize TextN.code lb = z2 at *
    have e1 : (X = (⟨x.toArray⟩ ++ ⟨y.toArray⟩ : ByteArray).toList) := by rw [cat_str, HH.out, ByteArray.toList_mk]
    have e2 : (Z = (⟨z1.toArray⟩ ++ ⟨z2.toArray⟩ : ByteArray).toList) := by rw [cat_str, HC.out, ByteArray.toList_mk]
    go_wp2_with fail
    refine hcode.out.mono ?_
    rintro e w8 ⟨rfl, b13⟩
    go_wp2_with fail
    refine (hcodeA.out w8 b13).mono ?_
    rintro e w9 ⟨rfl, b14⟩
    have b15 := b13.trans (b14.mono b13.size)
    go_wp2_with fail
    refine (hcodeB.out w9 b15).mono ?_
    rintro e w10 ⟨rfl, b16⟩
    have b17 := b11.trans ((b15.trans (b16.mono b15.size)).mono b11.size)
    go_wp2_with fail
    go_ret
    exact ⟨rfl, b17⟩
  · have ht : ((la.length : Int) % 3 != 0) = true := by simp; omega
    generalize TextM.hex (la ++ lb) = X at *
    generalize TextM.hex la = x at *
    generalize TextM.hex lb = y at *
    have e1 : (X = (⟨x.toArray⟩ ++ ⟨y.toArray⟩ : ByteArray).toList) := by rw [cat_str, HH.out, ByteArray.toList_mk]
    go_wp2_with fail
    go_ret
    exact ⟨rfl, b11⟩
end Go.Proofs.Ytnbchnaehmbfcaa.TextPartsL
