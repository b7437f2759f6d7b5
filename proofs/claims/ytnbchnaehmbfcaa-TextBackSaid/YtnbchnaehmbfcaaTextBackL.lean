/-
  The walk of ticketwardkeep.TextBack: it returns true and writes nothing that was there. Conditions: the form's own reach.
-/
import Derived.Test.YtnbchnaehmbfcaaTextAlive
import Derived.Test.YtnbchnaehmbfcaaTextP
import Derived.Test.YtnbchnaehmbfcaaBytesX
namespace Go.Proofs.Ytnbchnaehmbfcaa.TextBackL
open Go.RowKit BytesW

theorem unhex_some (s : List UInt8) (w : World) (hs : s.length ≤ 140737488351232) :
    Calls Try.prog 10 #[.string ⟨s.toArray⟩] w fun e w' => ∃ A c, e = .returned (.tuple #[.slice A (TextM.unhex s).2.length c, .int .i64 ((TextM.unhex s).1 : Int)]) ∧
      Bs w' w'.heap.size A (TextM.unhex s).2 ∧ (TextM.unhex s).2.length ≤ c ∧ Below w.heap.size w w' := by
  refine (TextUnhexW.unhex_any ⟨s.toArray⟩ w (by simp [ByteArray.size, maxLen]; omega)).mono ?_
  rintro e w' ⟨v, rfl, r, b⟩
  simp only at r ⊢
  obtain ⟨A, c, rfl, h, hc⟩ := r.form2
  exact ⟨A, c, rfl, h, hc, b⟩

theorem uncode_some (s : List UInt8) (w : World) (hs : s.length ≤ 140737488351232) :
    Calls Try.prog 15 #[.string ⟨s.toArray⟩] w fun e w' => ∃ A c, e = .returned (.tuple #[.slice A (TextN.uncode s).2.length c, .int .i64 ((TextN.uncode s).1 : Int)]) ∧
      Bs w' w'.heap.size A (TextN.uncode s).2 ∧ (TextN.uncode s).2.length ≤ c ∧ Below w.heap.size w w' := by
  refine (TextUncodeW.uncode_any s w (by simp [maxLen]; omega)).mono ?_
  rintro e w' ⟨v, rfl, r, b⟩
  obtain ⟨A, c, rfl, h, hc⟩ := r.form2
  exact ⟨A, c, rfl, h, hc, b⟩

theorem unhex_len (s : List UInt8) : (TextM.unhex s).2.length ≤ 32768 := by
  by_cases h : (TextM.unhex s).1 = 0
  · have h1 := congrArg List.length (TextP.hex_unhex s h)
    rw [TextM.hex_length] at h1
    by_cases h2 : 32768 < s.length
    · unfold TextM.unhex; rw [if_pos h2]; simp
    · omega
  · rw [TextP.unhex_bad s h]; simp

theorem uncode_len (s : List UInt8) : (TextN.uncode s).2.length ≤ 32768 := by
  by_cases h : (TextN.uncode s).1 = 0
  · have h1 := congrArg List.length (TextP.code_uncode s h)
    rw [TextN.code_length] at h1
    by_cases h2 : 32768 < s.length
    · unfold TextN.uncode; rw [if_pos h2]; simp
    · omega
  · rw [TextP.uncode_bad s h]; simp

set_option maxHeartbeats 4000000 in
set_option maxRecDepth 100000 in
theorem walk (a : Option Addr) (l : List UInt8) (c : Nat) (s : List UInt8) (w : World) (hA : Bs w w.heap.size a l) (hca : l.length ≤ c) (_ : l.length ≤ 140737488351232) (hs : s.length ≤ 140737488351232) :
    Calls Try.prog 5 #[.slice a l.length c, .string ⟨s.toArray⟩] w fun e w' => e = .returned (.bool true) ∧ Below w.heap.size w w' := by
  go_enter Try.func5, Try.ntmps5
  go_wp2_with fail
  refine (TextAlive.alive_any w).mono ?_
  rintro e w1 ⟨rfl, b1⟩
  by_cases hbig : 16384 < l.length
  · go_wp2
    go_ret
    exact ⟨rfl, b1⟩
  · have hA1 := (hA.below b1).more b1.size
    go_wp2_with fail
    refine (TextHexW.hex_any a l c w1 hA1 (by omega)).mono ?_
    rintro e w2 ⟨rfl, b2'⟩
    have b2 := b1.trans (b2'.mono b1.size)
    clear b2' hA1 b1
    go_wp2_with fail
    refine (unhex_some (TextM.hex l) w2 (by rw [TextM.hex_length]; omega)).mono ?_
    rintro e w3 ⟨X, cx, rfl, hX, hcx, b3'⟩
    rw [TextP.unhex_hex l (by omega)] at hX hcx ⊢
    have b3 := b2.trans (b3'.mono b2.size)
    have hA3 := (hA.below b3).more b3.size
    clear b3' b2
    go_wp2_with fail
    refine (TextCodeW.code_any a l c w3 hA3 (by omega) hca).mono ?_
    rintro e w4 ⟨rfl, b4'⟩
    have b4 := b3.trans (b4'.mono b3.size)
    have hX4 := (hX.below b4').more b4'.size
    clear b4' hA3 hX
    go_wp2_with fail
    refine (uncode_some (TextN.code l) w4 (by rw [TextN.code_length]; omega)).mono ?_
    rintro e w5 ⟨Y, cy, rfl, hY, hcy, b5'⟩
    rw [TextP.uncode_code l (by omega)] at hY hcy ⊢
    have b5 := b4.trans (b5'.mono b4.size)
    have hX5 := (hX4.below b5')
    have cA := (hA.below b5).conv c
    have cX := hX5.conv cx
    have cY := hY.conv cy
    clear b5' hX4 b4 b3 hX5 hY
    go_wp2_with fail
    refine (unhex_some s w5 hs).mono ?_
    rintro e w6 ⟨U, cu, rfl, hU, hcu, b6'⟩
    have b6 := b5.trans (b6'.mono b5.size)
    clear b6' cA cX cY b5 hA hcx hcy hca
    have p1 := Lib.hid (TextP.hex_unhex s)
    have p2 := Lib.hid (TextP.unhex_bad s)
    have p3 := Lib.hid (TextP.code_uncode s)
    have p4 := Lib.hid (TextP.uncode_bad s)
    have q1 := unhex_len s
    have q2 := uncode_len s
    go_wp2_with fail
    refine (uncode_some s w6 hs).mono ?_
    rintro e w7 ⟨V, cv, rfl, hV, hcv, b7'⟩
    have b7 := b6.trans (b7'.mono b6.size)
    have hU7 := (hU.below b7').more b7'.size
    clear b7' b6 hU
    generalize TextM.unhex s = r1 at *
    generalize TextN.uncode s = r2 at *
    obtain ⟨e1, u⟩ := r1
    obtain ⟨e2, v⟩ := r2
    simp only at *
    by_cases h1 : e1 = 0
    · subst h1
      have k1 := p1.out rfl
      have H1 := Lib.hid (fun W (hW : Below w7.heap.size w7 W) => TextHexW.hex_any U u cu W (hU7.below hW |>.more hW.size) (by omega))
      rw [k1] at H1
      clear p1 p2 k1
      by_cases h2 : e2 = 0
      · subst h2
        have k2 := p3.out rfl
        have H2 := Lib.hid (fun W (hW : Below w7.heap.size w7 W) => TextCodeW.code_any V v cv W (hV.below hW |>.more hW.size) (by omega) hcv)
        rw [k2] at H2
        clear p3 p4 k2
        go_wp2_with fail
        refine (H1.out _ (Below.refl _ _)).mono ?_
        rintro e w8 ⟨rfl, b8⟩
        go_wp2_with fail
        refine (H2.out _ b8).mono ?_
        rintro e w9 ⟨rfl, b9⟩
        go_wp2_with fail
        go_ret
        exact ⟨rfl, b7.trans ((b8.trans (b9.mono b8.size)).mono b7.size)⟩
      · have k2 := p4.out h2
        subst k2
        have n1 : ((e2 : Int) != 0) = true := by simp; omega
        have n2 : ((e2 : Int) == 0) = false := by simp; omega
        clear p3 p4
        go_wp2_with fail
        refine (H1.out _ (Below.refl _ _)).mono ?_
        rintro e w8 ⟨rfl, b8⟩
        go_wp2_with fail
        go_ret
        exact ⟨rfl, b7.trans (b8.mono b7.size)⟩
    · have k1 := p2.out h1
      subst k1
      have m1 : ((e1 : Int) != 0) = true := by simp; omega
      have m2 : ((e1 : Int) == 0) = false := by simp; omega
      clear p1 p2
      by_cases h2 : e2 = 0
      · subst h2
        have k2 := p3.out rfl
        have H2 := Lib.hid (fun W (hW : Below w7.heap.size w7 W) => TextCodeW.code_any V v cv W (hV.below hW |>.more hW.size) (by omega) hcv)
        rw [k2] at H2
        clear p3 p4 k2
        go_wp2_with fail
        refine (H2.out _ (Below.refl _ _)).mono ?_
        rintro e w9 ⟨rfl, b9⟩
        go_wp2_with fail
        go_ret
        exact ⟨rfl, b7.trans (b9.mono b7.size)⟩
      · have k2 := p4.out h2
        subst k2
        have n1 : ((e2 : Int) != 0) = true := by simp; omega
        have n2 : ((e2 : Int) == 0) = false := by simp; omega
        clear p3 p4
        go_wp2_with fail
        go_ret
        exact ⟨rfl, b7⟩
end Go.Proofs.Ytnbchnaehmbfcaa.TextBackL
