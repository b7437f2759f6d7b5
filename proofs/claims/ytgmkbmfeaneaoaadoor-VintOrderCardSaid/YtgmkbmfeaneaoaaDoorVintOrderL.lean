/-
  The walk of ticketwardkeep.VintOrder: it returns true and writes nothing that was there. Conditions: the table of math/bits.
-/
import Derived.Test.YtgmkbmfeaneaoaaDoorVintAlive
import Derived.Test.YtgmkbmfeaneaoaaDoorVintO
namespace Go.Proofs.YtgmkbmfeaneaoaaDoor.VintOrderL
open Go.RowKit BytesW VintM VintLongW VintTakeW VintPutW VintAliveW

theorem same_bool (t : Bool) : Ending.returned (.bool (t == t)) = Ending.returned (.bool true) := by cases t <;> rfl

set_option maxHeartbeats 4000000 in
set_option maxRecDepth 100000 in
theorem walk (n m : Int) (w : World) (_ : (Lit.int .i64 n).wf = true) (_ : (Lit.int .i64 m).wf = true) (hT : Tab w) :
    Calls Tryd.prog 6 #[.int .i64 n, .int .i64 m] w fun e w' => e = .returned (.bool true) ∧ Below w.heap.size w w' := by
  have HA := Lib.hid (alive_any w hT)
  have hp := Lib.hid (fun w h => put_any n w h)
  have hq := Lib.hid (fun w h => put_any m w h)
  have HT := Lib.hid hT
  clear hT
  unfold ByPost at hp hq
  rcases put_cases n with ⟨e, hn⟩ | ⟨x, rfl, hx, e⟩
  · rw [e] at hp
    clear e hn
    simp only at hp
    obtain ⟨P, hP⟩ : ∃ P, put m = P := ⟨_, rfl⟩
    rw [hP] at hq
    clear hP
    obtain ⟨e2, q⟩ := P
    simp only at hq
    go_enter Tryd.func6, Tryd.ntmps6
    go_wp2_with fail
    refine HA.out.mono ?_
    rintro e w1 ⟨rfl, b1⟩
    have T1 := Lib.hid (HT.out.below b1)
    go_wp2_with fail
    refine (hp.out _ T1.out).mono ?_
    rintro e w2 ⟨v, rfl, r, b2⟩
    have b := b1.trans (b2.mono b1.size)
    have T2 := Lib.hid (T1.out.below b2)
    go_wp2_with fail
    refine (hq.out _ T2.out).mono ?_
    rintro e w3 ⟨v2, rfl, r2, b3⟩
    have b' := b.trans (b3.mono b.size)
    obtain ⟨A, c, rfl, _, _⟩ := (r.below b3).form2
    clear hp hq r r2 b b1 b2 b3
    go_wp2
    go_ret
    exact ⟨rfl, b'⟩
  · rw [e] at hp
    clear e
    simp only at hp
    rcases put_cases m with ⟨e, hn⟩ | ⟨y, rfl, hy, e⟩
    · rw [e] at hq
      clear e hn hx
      simp only at hq
      generalize enc x (lng x) = E at *
      go_enter Tryd.func6, Tryd.ntmps6
      go_wp2_with fail
      refine HA.out.mono ?_
      rintro e w1 ⟨rfl, b1⟩
      have T1 := Lib.hid (HT.out.below b1)
      go_wp2_with fail
      refine (hp.out _ T1.out).mono ?_
      rintro e w2 ⟨v, rfl, r, b2⟩
      have b := b1.trans (b2.mono b1.size)
      have T2 := Lib.hid (T1.out.below b2)
      go_wp2_with fail
      refine (hq.out _ T2.out).mono ?_
      rintro e w3 ⟨v2, rfl, r2, b3⟩
      have b' := b.trans (b3.mono b.size)
      obtain ⟨A, c, rfl, _, _⟩ := (r.below b3).form2
      obtain ⟨A2, c2, rfl, _, _⟩ := r2.form2
      clear hp hq r r2 b b1 b2 b3
      by_cases hE : E = []
      · subst hE
        go_wp2
        go_ret
        exact ⟨rfl, b'⟩
      · have t1 : ((E.length : Int) == 0) = false := by cases E with | nil => exact absurd rfl hE | cons a l => simp; omega
        go_wp2
        go_ret
        exact ⟨rfl, b'⟩
    · rw [e] at hq
      clear e
      simp only at hq
      obtain ⟨o1, o2⟩ := order hx hy
      generalize enc x (lng x) = E at *
      generalize enc y (lng y) = F at *
      have HO := Lib.hid o1
      clear o1
      go_enter Tryd.func6, Tryd.ntmps6
      go_wp2_with fail
      refine HA.out.mono ?_
      rintro e w1 ⟨rfl, b1⟩
      have T1 := Lib.hid (HT.out.below b1)
      go_wp2_with fail
      refine (hp.out _ T1.out).mono ?_
      rintro e w2 ⟨v, rfl, r, b2⟩
      have b := b1.trans (b2.mono b1.size)
      have T2 := Lib.hid (T1.out.below b2)
      go_wp2_with fail
      refine (hq.out _ T2.out).mono ?_
      rintro e w3 ⟨v2, rfl, r2, b3⟩
      have b' := b.trans (b3.mono b.size)
      obtain ⟨A, c, rfl, s1, _⟩ := (r.below b3).form2
      obtain ⟨A2, c2, rfl, s2, _⟩ := r2.form2
      have k1 := s1.conv c
      have k2 := s2.conv c2
      clear hp hq r r2 b b1 b2 b3 s1 s2
      by_cases hle : E.length ≤ F.length
      · have d1 : decide (E.length ≤ F.length) = true := decide_eq_true hle
        go_wp2
        go_ret
        exact ⟨rfl, b'⟩
      · have d1 : decide (E.length ≤ F.length) = false := decide_eq_false hle
        have d2 : decide (y < x) = true := decide_eq_true (by omega)
        go_wp2
        go_ret
        exact ⟨rfl, b'⟩
end Go.Proofs.YtgmkbmfeaneaoaaDoor.VintOrderL
