/-
  The walk of ticketwardkeep.TextSame: it returns true and writes nothing that was there. Conditions: the form's own reach.
-/
import Derived.Test.YtnbchnaehmbfcaaTextAlive
import Derived.Test.YtnbchnaehmbfcaaBytesX
namespace Go.Proofs.Ytnbchnaehmbfcaa.TextSameL
open Go.RowKit BytesW

set_option maxHeartbeats 4000000 in
set_option maxRecDepth 100000 in
theorem walk (a : Option Addr) (l : List UInt8) (c : Nat) (at_ by_ : Int) (w : World) (hA : Bs w w.heap.size a l) (_ : l.length ≤ c) (hl : l.length ≤ 140737488351232) (h1 : (Lit.int .i64 at_).wf = true) (h2 : (Lit.int .u8 by_).wf = true) :
    Calls Try.prog 8 #[.slice a l.length c, .int .i64 at_, .int .u8 by_] w fun e w' => e = .returned (.bool true) ∧ Below w.heap.size w w' := by
  go_enter Try.func8, Try.ntmps8
  go_wp2_with fail
  refine (TextAlive.alive_any w).mono ?_
  rintro e w1 ⟨rfl, b1⟩
  have hB := b1.size
  have r0 := Row.empty w.heap.size w1 hB
  have b2 := b1.alloc hB (.cells #[] 5)
  have hA2 := hA.below b2
  have hB2 := b2.size
  go_wp2_with (at_builtin; go_must (refine appN rfl (.tmp 10) (.tmp 11) rfl w.heap.size _ _ [] rfl r0 a l c rfl hA2 (by simp; omega) hB2 ?_))
  intro v w3 r3 b3'
  have b3 := b2.trans b3'
  have hA3 := hA.below b3
  obtain ⟨Am, cm, rfl, hm⟩ := r3.form
  clear hA2 b2 hB2 r0 b3' b1
  go_wp2_with fail
  refine (TextSameW.same_below a Am l l c cm w3 _ _ hA3 hm (by unfold maxLen; omega)).mono ?_
  rintro e w4 ⟨rfl, b4⟩
  rw [beq_self_eq_true]
  have r4 := r3.below b4
  have b5 := b3.trans (b4.mono b3.size)
  have hA4 := hA.below b5
  have hB5 := b5.size
  have hnew := new1 w4 0 0 rfl
  clear hA3 hm b4 r3
  go_wp2_with (at_builtin; go_must (refine app1keep rfl (.tmp 19) (.tmp 20) rfl w.heap.size _ l rfl (r4.alloc _) ⟨w4.heap.size, 0, none⟩ 1 0 rfl hnew (by omega) (by simp; omega) ?_))
  intro v5 w5 rv rm b6
  have b7 := (b5.alloc hB5 (.cells #[.int .u8 0] 5)).trans b6
  have hA5 := hA.below b7
  obtain ⟨Aq, cq, rfl, hq⟩ := rv.form
  have hsm := TextSameW.same_below a Aq l (l ++ [0]) c cq w5 _ _ hA5 hq (by unfold maxLen; omega)
  have hne : (l == l ++ [0]) = false := beq_eq_false_iff_ne.2 fun h => by have := congrArg List.length h; simp at this
  rw [hne, List.length_append, List.length_singleton] at hsm
  rw [List.length_append, List.length_singleton]
  have HS := Lib.hid hsm
  clear hsm hne rv hq hA4 hA5 hnew r4 b6
  go_wp2_with fail
  refine HS.out.mono ?_
  rintro e w6 ⟨rfl, b8⟩
  have b9 := b7.trans (b8.mono b7.size)
  have rm6 := rm.below b8
  clear b8 rm HS
  have hx : -9223372036854775808 ≤ at_ ∧ at_ ≤ 9223372036854775807 := by simpa [Lit.wf, IntKind.min, IntKind.max, IntKind.signed, IntKind.bits] using h1
  have hy : 0 ≤ by_ ∧ by_ ≤ 255 := by simpa [Lit.wf, IntKind.min, IntKind.max, IntKind.signed, IntKind.bits] using h2
  by_cases h0 : at_ < 0
  · go_wp2
    go_ret
    exact ⟨rfl, b9⟩
  · by_cases hge : (l.length : Int) ≤ at_
    · go_wp2
      go_ret
      exact ⟨rfl, b9⟩
    · obtain ⟨k, rfl⟩ := Int.eq_ofNat_of_zero_le (by omega : 0 ≤ at_)
      have hk : k < l.length := by omega
      obtain ⟨y, rfl⟩ := byte_of by_ hy.1 hy.2
      obtain ⟨g, rfl, _, hg, hgs, hcell, hfz⟩ := rm6.place (by omega)
      have hck := hcell k hk
      have hfk := hfz k
      have HX := Lib.hid (Bits.xor_u8 l[k] y)
      have rset := rm6.set k (l[k] ^^^ y) _ HX.out
      have b10 := b9.setCell (p := ⟨g, k, none⟩) hg (.int .u8 (bits BinOp.xor .u8 (l[k].toNat : Int) (y.toNat : Int)))
      have hA10 := hA.below b10
      obtain ⟨A', c', he, hset⟩ := rset.form
      cases he
      have hsm := TextSameW.same_below a (some ⟨g, 0, none⟩) l (l.set k (l[k] ^^^ y)) c cm _ _ _ hA10 hset (by unfold maxLen; omega)
      rw [List.length_set] at hsm
      by_cases hy0 : y = 0
      · subst hy0
        have hl2 : l.set k (l[k] ^^^ 0) = l := by rw [UInt8.xor_zero, List.set_getElem_self]
        rw [hl2, beq_self_eq_true] at hsm
        have HS := Lib.hid hsm
        clear hcell hfz h1 h2 hx hsm rset hset hl2 hA10 HX
        go_wp2_with fail
        refine HS.out.mono ?_
        rintro e w7 ⟨rfl, b11⟩
        go_wp2
        go_ret
        exact ⟨rfl, b10.trans (b11.mono b10.size)⟩
      · have hyn : ((y.toNat : Int) == 0) = false := by
          rw [beq_eq_false_iff_ne]
          intro h
          exact hy0 (UInt8.toNat.inj (by simp; omega))
        have hl2 : (l == l.set k (l[k] ^^^ y)) = false := by
          rw [beq_eq_false_iff_ne]
          intro h
          have h2 := congrArg (fun m => m[k]?) h
          simp only [List.getElem?_set_self hk, List.getElem?_eq_getElem hk, Option.some.injEq] at h2
          have h3 : l[k] ^^^ (l[k] ^^^ y) = l[k] ^^^ l[k] := by rw [← h2]
          rw [← UInt8.xor_assoc, UInt8.xor_self, UInt8.zero_xor] at h3
          exact hy0 h3
        rw [hl2] at hsm
        have HS := Lib.hid hsm
        clear hcell hfz h1 h2 hx hsm rset hset hl2 hA10 HX hy0
        go_wp2_with fail
        refine HS.out.mono ?_
        rintro e w7 ⟨rfl, b11⟩
        go_wp2
        go_ret
        exact ⟨rfl, b10.trans (b11.mono b10.size)⟩
end Go.Proofs.Ytnbchnaehmbfcaa.TextSameL
