/-
  The walk of ticketwardkeep.VintAs: it returns true and writes nothing that was there. Conditions: the table of math/bits.
-/
import Derived.Test.YtgmkbmfeaneaoaaDoorVintAlive
namespace Go.Proofs.YtgmkbmfeaneaoaaDoor.VintAsL
open Go.RowKit BytesW VintM VintLongW VintTakeW VintPutW VintAliveW

set_option maxHeartbeats 4000000 in
set_option maxRecDepth 100000 in
theorem walk (n k : Int) (w : World) (_ : (Lit.int .i64 n).wf = true) (_ : (Lit.int .i64 k).wf = true) (hT : Tab w) :
    Calls Tryd.prog 5 #[.int .i64 n, .int .i64 k] w fun e w' => e = .returned (.bool true) ∧ Below w.heap.size w w' := by
  have HA := Lib.hid (alive_any w hT)
  have ha := Lib.hid (fun w h => as_any n k w h)
  have HT := Lib.hid hT
  clear hT
  unfold ByPost at ha
  rcases as_cases n k with ⟨er, e, her⟩ | ⟨m, j, rfl, rfl, hm, hj, hf, e⟩
  · rw [e] at ha
    clear e
    simp only at ha
    have t1 : ((er : Int) != 0) = true := bne_iff_ne.2 (by omega)
    go_enter Tryd.func5, Tryd.ntmps5
    go_wp2_with fail
    refine HA.out.mono ?_
    rintro e w1 ⟨rfl, b1⟩
    have T1 := Lib.hid (HT.out.below b1)
    go_wp2_with fail
    refine (ha.out _ T1.out).mono ?_
    rintro e w2 ⟨v, rfl, r, b2⟩
    obtain ⟨A, c, rfl, _, _⟩ := r.form2
    have b := b1.trans (b2.mono b1.size)
    clear ha r b1 b2
    go_wp2
    go_ret
    exact ⟨rfl, b⟩
  · rw [e] at ha
    have HTk := Lib.hid (take_enc hj (lng_le_fits hm hf) [])
    have HSt := Lib.hid (strict_enc hj (lng_le_fits hm hf) [])
    have HLg := Lib.hid (long_yes m hm)
    have hlen := enc_length (n := m) hj
    rw [List.append_nil] at HTk HSt
    clear e hm hj
    simp only at ha
    generalize lng m = g at *
    generalize enc m j = E at *
    subst hlen
    have d1 : decide (g ≤ E.length) = true := decide_eq_true hf
    go_enter Tryd.func5, Tryd.ntmps5
    go_wp2_with fail
    refine HA.out.mono ?_
    rintro e w1 ⟨rfl, b1⟩
    have T1 := Lib.hid (HT.out.below b1)
    go_wp2_with fail
    refine (ha.out _ T1.out).mono ?_
    rintro e w2 ⟨v, rfl, r, b2⟩
    obtain ⟨A, c, rfl, s, hc⟩ := r.form2
    have b := b1.trans (b2.mono b1.size)
    have ht := take_any E A c _ w2 s hc
    have hs := strict_any E A c _ w2 s hc
    unfold ThPost at ht hs
    rw [HTk.out] at ht
    rw [HSt.out] at hs
    have HT2 := Lib.hid ht
    clear ha r b1 b2 ht s HTk HSt
    by_cases hg : g < E.length
    · rw [if_pos hg] at hs
      have HS2 := Lib.hid hs
      have t9 : ((g : Int) == E.length) = false := beq_eq_false_iff_ne.2 (by omega)
      clear hs
      go_wp2_with fail
      refine HT2.out.mono ?_
      rintro e w' ⟨rfl, rfl⟩
      go_wp2_with fail
      refine (HLg.out _).mono ?_
      rintro e w' ⟨rfl, rfl⟩
      go_wp2_with fail
      refine HS2.out.mono ?_
      rintro e w' ⟨rfl, rfl⟩
      go_wp2
      go_ret
      exact ⟨rfl, b⟩
    · obtain rfl : g = E.length := by omega
      rw [if_neg hg] at hs
      have HS2 := Lib.hid hs
      clear hs
      go_wp2_with fail
      refine HT2.out.mono ?_
      rintro e w' ⟨rfl, rfl⟩
      go_wp2_with fail
      refine (HLg.out _).mono ?_
      rintro e w' ⟨rfl, rfl⟩
      go_wp2_with fail
      refine HS2.out.mono ?_
      rintro e w' ⟨rfl, rfl⟩
      go_wp2
      go_ret
      exact ⟨rfl, b⟩
end Go.Proofs.YtgmkbmfeaneaoaaDoor.VintAsL
