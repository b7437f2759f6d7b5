/-
  The walk of ticketwardkeep.StreamBits: it returns true and writes nothing that was there. Conditions: the form's own reach.
-/
import Derived.Test.YthofghfbnlieeaaStreamAlive
import Derived.Test.YthofghfbnlieeaaKc
import Derived.Test.YthofghfbnlieeaaKa
namespace Go.Proofs.Ythofghfbnlieeaa.StreamBitsL
open Go.RowKit BytesW ArrW ArrG StreamM StreamSumW

theorem wf_i64 {n : Int} (h : (Lit.int .i64 n).wf = true) : -9223372036854775808 ≤ n ∧ n < 9223372036854775808 := by
  have hx : -9223372036854775808 ≤ n ∧ n ≤ 9223372036854775807 := by simpa [Lit.wf, IntKind.min, IntKind.max, IntKind.signed, IntKind.bits] using h
  omega

set_option maxHeartbeats 8000000 in
set_option maxRecDepth 100000 in
theorem walk (a0 : Option Addr) (l0 : List UInt8) (c0 : Nat) (a1 : Option Addr) (l1 : List UInt8) (c1 : Nat) (n : Int) (a3 : Option Addr) (l3 : List UInt8) (c3 : Nat) (a4 : Option Addr) (l4 : List UInt8) (c4 : Nat) (w : World) (hA : Bs w w.heap.size a0 l0) (hc0 : l0.length ≤ c0) (hl0 : l0.length ≤ 140737488351232) (hB : Bs w w.heap.size a1 l1) (hc1 : l1.length ≤ c1) (hl1 : l1.length ≤ 140737488351232) (hwf : (Lit.int .i64 n).wf = true) (hC : Bs w w.heap.size a3 l3) (hc3 : l3.length ≤ c3) (hl3 : l3.length ≤ 140737488351232) (hD : Bs w w.heap.size a4 l4) (hc4 : l4.length ≤ c4) (_ : l4.length ≤ 140737488351232) :
    Calls Try.prog 6 #[.slice a0 l0.length c0, .slice a1 l1.length c1, .int .i64 n, .slice a3 l3.length c3, .slice a4 l4.length c4] w fun e w' => e = .returned (.bool true) ∧ Below w.heap.size w w' := by
  obtain ⟨hn1, hn2⟩ := wf_i64 hwf
  have HA := Lib.hid hA
  have HB := Lib.hid hB
  have HC := Lib.hid hC
  have HD := Lib.hid hD
  clear hA hB hC hD hwf
  go_enter Try.func6, Try.ntmps6
  go_wp2_with fail
  refine (StreamAliveW.alive_any w).mono ?_
  rintro e w1 ⟨rfl, b1⟩
  have X1 := Lib.hid b1
  clear b1
  go_upto_region 4 with (fail)
  obtain ⟨m, hm, hm3, hm4⟩ : ∃ m : Nat, (if l4.length < l3.length then (l4.length : Int) else (l3.length : Int)) = (m : Int) ∧ m ≤ l3.length ∧ m ≤ l4.length := by
    by_cases h : l4.length < l3.length
    · exact ⟨l4.length, by rw [if_pos h], by omega, Nat.le_refl _⟩
    · exact ⟨l3.length, by rw [if_neg h], Nat.le_refl _, by omega⟩
  rw [hm]
  clear hm
  have im3 : (m : Int) ≤ (c3 : Int) := by omega
  have im4 : (m : Int) ≤ (c4 : Int) := by omega
  obtain ⟨A, hAe⟩ : ∃ A, l3.take m = A := ⟨_, rfl⟩
  obtain ⟨B, hBe⟩ : ∃ B, l4.take m = B := ⟨_, rfl⟩
  have hAl : A.length = m := by rw [← hAe, List.length_take]; omega
  have hBl : B.length = m := by rw [← hBe, List.length_take]; omega
  have HAb : Hid (Bs w w.heap.size a3 A) := Lib.hid (by rw [← hAe]; exact HC.out.take m)
  have HBb : Hid (Bs w w.heap.size a4 B) := Lib.hid (by rw [← hBe]; exact HD.out.take m)
  have HAl := Lib.hid hAl
  have HBl := Lib.hid hBl
  have h5 := smix_any a0 l0 c0 a1 l1 c1 n a3 A c3 w1 ((HA.out.below X1.out).more X1.out.size) hc0 ((HB.out.below X1.out).more X1.out.size) hc1 ((HAb.out.below X1.out).more X1.out.size) (by omega) hl0 hl1 (by omega) hn1 hn2
  have h6 := fun (V : World) (hV : Below w.heap.size w V) => smix_any a0 l0 c0 a1 l1 c1 n a4 B c4 V ((HA.out.below hV).more hV.size) hc0 ((HB.out.below hV).more hV.size) hc1 ((HBb.out.below hV).more hV.size) (by omega) hl0 hl1 (by omega) hn1 hn2
  obtain ⟨xs, e1, hx⟩ : ∃ bs er, mixM l0 l1 n A = (bs, er) := ⟨_, _, rfl⟩
  obtain ⟨ys, e2, hy⟩ : ∃ bs er, mixM l0 l1 n B = (bs, er) := ⟨_, _, rfl⟩
  rw [hx, hAl] at h5
  simp only [hy, hBl] at h6
  have H5 := Lib.hid h5
  have H6 := Lib.hid h6
  unfold mixM at hx hy
  rw [hAl] at hx
  rw [hBl] at hy
  have HX := Lib.hid hx
  have HY := Lib.hid hy
  clear h5 h6 hx hy hAl hBl hAe hBe
  go_wp2_with fail
  refine H5.out.mono ?_
  clear H5
  rintro e w2 ⟨A5, d5, rfl, hd5, s5, b2⟩
  have X2 := Lib.hid (X1.out.trans (b2.mono X1.out.size))
  have S5 := Lib.hid s5
  simp only at hd5 S5 ⊢
  clear b2 s5
  go_wp2_with fail
  refine (H6.out w2 X2.out).mono ?_
  clear H6
  rintro e w3 ⟨A7, d7, rfl, hd7, s7, b3⟩
  have X3 := Lib.hid (X2.out.trans (b3.mono X2.out.size))
  have S53 := Lib.hid ((S5.out.below b3).more b3.size)
  have S7 := Lib.hid s7
  simp only at hd7 S7 ⊢
  clear b3 s7 S5
  by_cases h1 : l0.length ≠ 32 ∨ l1.length ≠ 12
  · have hx := HX.out
    have hy := HY.out
    rw [if_pos h1] at hx hy
    cases hx
    cases hy
    clear h1
    go_wp2
    go_ret
    exact ⟨rfl, X3.out⟩
  · by_cases h2 : n < 0 ∨ 4294967296 ≤ n ∨ 16384 < m ∨ 64 * (4294967296 - n) < (m : Int)
    · have hx := HX.out
      have hy := HY.out
      rw [if_neg h1, if_pos h2] at hx hy
      cases hx
      cases hy
      clear h1 h2
      go_wp2
      go_ret
      exact ⟨rfl, X3.out⟩
    · have hx := HX.out
      have hy := HY.out
      rw [if_neg h1, if_neg h2] at hx hy
      obtain ⟨hxs, rfl⟩ : mix l0 l1 n A = xs ∧ e1 = 0 := by cases hx; exact ⟨rfl, rfl⟩
      obtain ⟨hys, rfl⟩ : mix l0 l1 n B = ys ∧ e2 = 0 := by cases hy; exact ⟨rfl, rfl⟩
      have HXl := Lib.hid (show xs.length = m by rw [← hxs, mix_len]; exact HAl.out)
      have HYl := Lib.hid (show ys.length = m by rw [← hys, mix_len]; exact HBl.out)
      have HBits := Lib.hid (fun (i : Nat) (ha : i < A.length) (hb : i < B.length) (ha' : i < xs.length) (hb' : i < ys.length) => (show xs[i] ^^^ ys[i] = A[i] ^^^ B[i] by subst hxs; subst hys; exact mix_bits l0 l1 n A B i ha hb ha' hb'))
      rw [HXl.out] at hd5
      rw [HYl.out] at hd7
      rw [HXl.out, HYl.out]
      have tm : ((m : Int) != (m : Int)) = false := by simp
      clear hx hy hxs hys HX HY h1 h2
      go_wp2
      go_loopw [70] (fun vk wr => ∃ k : Nat, k ≤ m ∧ vk = .int .i64 (k : Int) ∧ Below w3.heap.size w3 wr) (fun vk _ => m - (intOf vk).toNat)
      case atStart => exact ⟨0, by omega, rfl, Below.refl _ _⟩
      case round =>
        obtain ⟨k, hk, rfl, bx⟩ := hrel
        have BX := Lib.hid bx
        have XR := Lib.hid (X3.out.trans (bx.mono X3.out.size))
        clear bx
        by_cases hlt : k < m
        · have ct : decide ((k : Int) < (m : Int)) = true := decide_eq_true (by omega)
          obtain ⟨p5, rfl, _, c5⟩ := (S53.out.below BX.out).at_ (k := k) (by rw [HXl.out]; exact hlt)
          obtain ⟨p7, rfl, _, c7⟩ := (S7.out.below BX.out).at_ (k := k) (by rw [HYl.out]; exact hlt)
          obtain ⟨p3, rfl, _, c3'⟩ := (HAb.out.below XR.out).at_ (k := k) (by rw [HAl.out]; exact hlt)
          obtain ⟨p4, rfl, _, c4'⟩ := (HBb.out.below XR.out).at_ (k := k) (by rw [HBl.out]; exact hlt)
          have hbit := HBits.out k (by rw [HAl.out]; exact hlt) (by rw [HBl.out]; exact hlt) (by rw [HXl.out]; exact hlt) (by rw [HYl.out]; exact hlt)
          obtain ⟨x5, h5⟩ : ∃ x, xs[k]'(by rw [HXl.out]; exact hlt) = x := ⟨_, rfl⟩
          obtain ⟨x7, h7⟩ : ∃ x, ys[k]'(by rw [HYl.out]; exact hlt) = x := ⟨_, rfl⟩
          obtain ⟨x3, h3⟩ : ∃ x, A[k]'(by rw [HAl.out]; exact hlt) = x := ⟨_, rfl⟩
          obtain ⟨x4, h4⟩ : ∃ x, B[k]'(by rw [HBl.out]; exact hlt) = x := ⟨_, rfl⟩
          rw [h5] at c5 hbit
          rw [h7] at c7 hbit
          rw [h3] at c3' hbit
          rw [h4] at c4' hbit
          have q1 := Bits.xor_u8 x5 x7
          have q2 := Bits.xor_u8 x3 x4
          rw [← hbit] at q2
          obtain ⟨z, hz⟩ : ∃ z, (((x5 ^^^ x7).toNat : Nat) : Int) = z := ⟨_, rfl⟩
          rw [hz] at q1 q2
          have tz : (z != z) = false := by simp
          have ik : (k : Int) < (m : Int) := by omega
          have ik3 : (k : Int) < (l3.length : Int) := by omega
          have ik4 : (k : Int) < (l4.length : Int) := by omega
          clear h5 h7 h3 h4 hbit hz
          go_upto_region 11 with (fail)
          refine Phase.wp_region_phases [([], [0, 1, 2, 3, 4, 5, 6, 7, 8, 9, 10, 11, 12, 13, 14, 15, 16, 17, 18], none)] (fun W => W = wr.drew) (by kernel_rfl) (by kernel_rfl) (fun _ _ d _ _ h => by cases d <;> exact h) rfl ?_
          refine Phase.g_quiet (Phase.p_nil ?_)
          iterate 19 (refine Phase.q_step rfl (fun K hK => ?_); go_simp; refine hK _ ?_; clear hK K)
          refine Phase.q_nil (Phase.g_nil ?_)
          rintro _ rfl
          have BX2 := Lib.hid BX.out.drew
          go_wp2
          go_roundw
          case rel => exact ⟨k + 1, by omega, by go_num, BX2.out⟩
          case measure => simp [intOf]; omega
        · obtain rfl : k = m := by omega
          have ct : decide ((k : Int) < (k : Int)) = false := decide_eq_false (by omega)
          go_wp2
          go_ret
          exact ⟨rfl, XR.out⟩
end Go.Proofs.Ythofghfbnlieeaa.StreamBitsL
