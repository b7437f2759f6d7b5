/-
  The walk of ticketwardkeep.StreamBack: it returns true and writes nothing that was there. Conditions: the form's own reach.
-/
import Derived.Test.YthofghfbnlieeaaStreamAlive
namespace Go.Proofs.Ythofghfbnlieeaa.StreamBackL
open Go.RowKit BytesW ArrW ArrG StreamM StreamSumW

theorem wf_i64 {n : Int} (h : (Lit.int .i64 n).wf = true) : -9223372036854775808 ≤ n ∧ n < 9223372036854775808 := by
  have hx : -9223372036854775808 ≤ n ∧ n ≤ 9223372036854775807 := by simpa [Lit.wf, IntKind.min, IntKind.max, IntKind.signed, IntKind.bits] using h
  omega

set_option maxHeartbeats 8000000 in
set_option maxRecDepth 100000 in
theorem walk (a0 : Option Addr) (l0 : List UInt8) (c0 : Nat) (a1 : Option Addr) (l1 : List UInt8) (c1 : Nat) (n : Int) (a3 : Option Addr) (l3 : List UInt8) (c3 : Nat) (w : World) (hA : Bs w w.heap.size a0 l0) (hc0 : l0.length ≤ c0) (hl0 : l0.length ≤ 140737488351232) (hB : Bs w w.heap.size a1 l1) (hc1 : l1.length ≤ c1) (hl1 : l1.length ≤ 140737488351232) (hwf : (Lit.int .i64 n).wf = true) (hC : Bs w w.heap.size a3 l3) (hc3 : l3.length ≤ c3) (hl3 : l3.length ≤ 140737488351232) :
    Calls Try.prog 4 #[.slice a0 l0.length c0, .slice a1 l1.length c1, .int .i64 n, .slice a3 l3.length c3] w fun e w' => e = .returned (.bool true) ∧ Below w.heap.size w w' := by
  obtain ⟨hn1, hn2⟩ := wf_i64 hwf
  have HA := Lib.hid hA
  have HB := Lib.hid hB
  have HC := Lib.hid hC
  clear hA hB hC hwf
  go_enter Try.func4, Try.ntmps4
  go_wp2_with fail
  refine (StreamAliveW.alive_any w).mono ?_
  rintro e w1 ⟨rfl, b1⟩
  have X1 := Lib.hid b1
  clear b1
  have h5 := smix_any a0 l0 c0 a1 l1 c1 n a3 l3 c3 w1 ((HA.out.below X1.out).more X1.out.size) hc0 ((HB.out.below X1.out).more X1.out.size) hc1 ((HC.out.below X1.out).more X1.out.size) hc3 hl0 hl1 hl3 hn1 hn2
  obtain ⟨bs, er, hbe⟩ : ∃ bs er, mixM l0 l1 n l3 = (bs, er) := ⟨_, _, rfl⟩
  rw [hbe] at h5
  have H5 := Lib.hid h5
  unfold mixM at hbe
  have HBe := Lib.hid hbe
  clear h5 hbe
  go_wp2_with fail
  refine H5.out.mono ?_
  clear H5
  rintro e w2 ⟨A2, d2, rfl, hd2, s2, b2⟩
  have X2 := Lib.hid (X1.out.trans (b2.mono X1.out.size))
  have S2 := Lib.hid s2
  simp only at hd2 S2 ⊢
  clear b2 s2
  by_cases h1 : l0.length ≠ 32 ∨ l1.length ≠ 12
  · have hbe := HBe.out
    rw [if_pos h1] at hbe
    cases hbe
    clear h1
    go_wp2
    go_ret
    exact ⟨rfl, X2.out⟩
  · by_cases h2 : n < 0 ∨ 4294967296 ≤ n ∨ 16384 < l3.length ∨ 64 * (4294967296 - n) < (l3.length : Int)
    · have hbe := HBe.out
      rw [if_neg h1, if_pos h2] at hbe
      cases hbe
      clear h1 h2
      go_wp2
      go_ret
      exact ⟨rfl, X2.out⟩
    · have hbe := HBe.out
      rw [if_neg h1, if_neg h2] at hbe
      obtain ⟨hbs, rfl⟩ : mix l0 l1 n l3 = bs ∧ er = 0 := by cases hbe; exact ⟨rfl, rfl⟩
      have HBs := Lib.hid hbs
      have HBl := Lib.hid (show bs.length = l3.length by rw [← hbs]; exact mix_len _ _ _ _)
      have hmm : mixM l0 l1 n bs = (l3, 0) := by
        unfold mixM
        rw [if_neg h1, if_neg (by rw [HBl.out]; exact h2), ← hbs, mix_mix]
      have h6 := smix_any a0 l0 c0 a1 l1 c1 n A2 bs d2 w2 ((HA.out.below X2.out).more X2.out.size) hc0 ((HB.out.below X2.out).more X2.out.size) hc1 S2.out hd2 hl0 hl1 (by rw [HBl.out]; exact hl3) hn1 hn2
      rw [hmm] at h6
      have H6 := Lib.hid h6
      clear h6 hmm hbe hbs HBe h1 h2
      go_wp2_with fail
      refine H6.out.mono ?_
      clear H6
      rintro e w3 ⟨A5, d5, rfl, hd5, s5, b5⟩
      have X3 := Lib.hid (X2.out.trans (b5.mono X2.out.size))
      have cv1 : (convert 22 9 (.slice A5 l3.length d5)).run Try.prog w3 = .ok (.string ⟨l3.toArray⟩) w3 := s5.conv d5
      have cv2 : (convert 22 9 (.slice a3 l3.length c3)).run Try.prog w3 = .ok (.string ⟨l3.toArray⟩) w3 := (HC.out.below X3.out).conv c3
      simp only
      clear s5 b5
      go_wp2
      go_ret
      exact ⟨rfl, X3.out⟩
end Go.Proofs.Ythofghfbnlieeaa.StreamBackL
