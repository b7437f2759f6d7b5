/-
  The walk of ticketwardlaw.VecTakes: it returns true and writes nothing that was there. Conditions: the form's own reach.
-/
import Derived.Test.YtgicbjpeagmfcaaVecFns
import Derived.Test.YtgicbjpeagmfcaaRefTake
namespace Go.Proofs.Ytgicbjpeagmfcaa.VecTakesL
open Go.RowKit BytesW VecFnsW VecSplitW RefPutW RefTakeW

set_option maxHeartbeats 4000000 in
set_option maxRecDepth 100000 in
theorem walk (n : Int) (a : Option Addr) (l : List UInt8) (c : Nat) (w : World) (_ : (Lit.int .i64 n).wf = true) (hA : Bs w w.heap.size a l) (hca : l.length ≤ c) (hl : l.length ≤ 140737488351232) :
    Calls Try.prog 3 #[.int .i64 n, .slice a l.length c] w fun e w' => e = .returned (.bool true) ∧ Below w.heap.size w w' := by
  go_enter Try.func3, Try.ntmps3
  go_wp2_with fail
  refine (put_any n l a c w hA (by omega)).mono ?_
  rintro e w1 ⟨v1, rfl, r1, b1⟩
  have hA1 := (hA.below b1).more b1.size
  go_wp2_with fail
  refine (put_ref n l a c w1 hA1 (by omega)).mono ?_
  rintro e w2 ⟨v2, rfl, r2, b2'⟩
  have b2 := b1.trans (b2'.mono b1.size)
  have r1 := r1.below b2'
  have hA2 := (hA1.below b2').more b2'.size
  clear hA1 b2' b1
  go_wp2_with fail
  refine (take_any n l a c w2 hA2 (by omega) hca).mono ?_
  rintro e w3 ⟨v3, v4, rfl, r3, r4, b3'⟩
  have b3 := b2.trans (b3'.mono b2.size)
  have r1 := r1.below b3'
  have r2 := r2.below b3'
  have hA3 := (hA2.below b3').more b3'.size
  clear hA2 b3' b2 hA
  go_wp2_with fail
  refine (take_ref n l a c w3.heap.size w3 hA3 (by omega) hca).mono ?_
  rintro e w4 ⟨A5, c5, A6, c6, rfl, s5, _, s6, _, b4'⟩
  have b4 := b3.trans (b4'.mono b3.size)
  obtain ⟨A1, c1, rfl, s1⟩ := (r1.below b4').form
  obtain ⟨A2, c2, rfl, s2⟩ := (r2.below b4').form
  obtain ⟨A3, c3, rfl, s3⟩ := (r3.below b4').form
  obtain ⟨A4, c4, rfl, s4⟩ := (r4.below b4').form
  have q1 := s1.conv c1
  have q2 := s2.conv c2
  have q3 := s3.conv c3
  have q4 := s4.conv c4
  have q5 := s5.conv c5
  have q6 := s6.conv c6
  clear r1 r2 r3 r4 s1 s2 s3 s4 s5 s6 hA3 b4' b3
  generalize VecM.put n l = P at *
  generalize VecM.take n l = T at *
  go_wp2
  go_ret
  exact ⟨rfl, b4⟩
end Go.Proofs.Ytgicbjpeagmfcaa.VecTakesL
