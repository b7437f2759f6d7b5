/-
  vec.Nest and Unnest: what they hand back, for every argument. Conditions: bounds in each statement.
-/
import Derived.Test.YtgicbjpeagmfcaaVecFns
namespace Go.Proofs.Ytgicbjpeagmfcaa.VecNestW
open Go.RowKit BytesW VecAppW VecSplitW RowsW VecFnsW

set_option maxHeartbeats 1000000 in
set_option maxRecDepth 100000 in
theorem nest_any (o n : Int) (ls : List (List UInt8)) (A : Option Addr) (c : Nat) (w : World) (hA : Ms w w.heap.size A ls) (hlen : VecM.total ls + 3 * ls.length + 3 ≤ 140737488355328) :
    Calls Try.prog 18 #[.int .i64 o, .int .i64 n, .slice A ls.length c] w (ByPost (VecM.nest o n ls) w) := by
  have hall := Lib.hid (all_any n ls A c w hA (by omega))
  have hl := VecM.all_len n ls
  have hN1 := Lib.hid (fun h : (VecM.all n ls).1 ≠ 0 => show VecM.nest o n ls = ((VecM.all n ls).1, []) from if_pos h)
  have hN2 := Lib.hid (fun h : (VecM.all n ls).1 = 0 => show VecM.nest o n ls = VecM.put o (VecM.all n ls).2 from if_neg (by simp [h]))
  generalize VecM.nest o n ls = N at *
  generalize VecM.all n ls = R at *
  obtain ⟨er, p⟩ := R
  simp only at hl hN1 hN2
  go_enter Try.func18, Try.ntmps18
  go_wp2_with fail
  refine hall.out.mono ?_
  clear hall hA
  rintro e w1 ⟨v, rfl, hr, hb⟩
  simp only at hr
  obtain ⟨A1, c1, rfl, h1, hc1⟩ := hr.form2
  by_cases her : er = 0
  · subst her
    have e2 := Lib.hid (hN2.out rfl)
    clear hN1 hN2 hr
    go_wp2_with fail
    refine (put_any o p A1 c1 w1 h1 (by omega)).mono ?_
    rintro e w2 ⟨v2, rfl, hr2, hb2⟩
    go_wp2
    go_ret2
    rw [e2.out]
    exact ⟨_, rfl, hr2.base hb.size, hb.trans (hb2.mono hb.size)⟩
  · have n1 : ((er : Int) != 0) = true := by simp; omega
    have e1 := Lib.hid (hN1.out her)
    clear hN1 hN2 hr h1
    go_wp2
    go_ret2
    rw [e1.out]
    exact ⟨_, rfl, Row.nil _ _, hb⟩

set_option maxHeartbeats 1000000 in
set_option maxRecDepth 100000 in
theorem unnest_any (o n : Int) (l : List UInt8) (A : Option Addr) (c : Nat) (w : World) (hA : Bs w w.heap.size A l) (hlen : l.length ≤ 4398046511104) (hc : l.length ≤ c) :
    Calls Try.prog 19 #[.int .i64 o, .int .i64 n, .slice A l.length c] w (RoPost (VecM.unnest o n l) w) := by
  have hs := Lib.hid (split_any o l A c w.heap.size w hA hc)
  have hl := VecM.take_lens o l
  have hU1 := Lib.hid (fun h : (VecM.take o l).1 ≠ 0 => show VecM.unnest o n l = ((VecM.take o l).1, []) from if_pos h)
  have hU2 := Lib.hid (fun (h : (VecM.take o l).1 = 0) (h2 : (VecM.take o l).2.2 ≠ []) => show VecM.unnest o n l = (1, []) from by unfold VecM.unnest; rw [if_neg (by simp [h]), if_pos h2])
  have hU3 := Lib.hid (fun (h : (VecM.take o l).1 = 0) (h2 : (VecM.take o l).2.2 = []) => show VecM.unnest o n l = VecM.rows n (VecM.take o l).2.1 from by unfold VecM.unnest; rw [if_neg (by simp [h]), if_neg (by simp [h2])])
  unfold SplitPost at hs
  clear hA
  generalize VecM.unnest o n l = U at *
  generalize VecM.take o l = t at *
  obtain ⟨er, d, r⟩ := t
  simp only at hl hs hU1 hU2 hU3
  go_enter Try.func19, Try.ntmps19
  go_wp2_with fail
  refine hs.out.mono ?_
  clear hs
  rintro e w1 ⟨A1, c1, A2, c2, rfl, h1, hc1, _, hc2, hb⟩
  by_cases her : er = 0
  · subst her
    by_cases hr : r = []
    · subst hr
      have e3 := Lib.hid (hU3.out rfl rfl)
      clear hU1 hU2 hU3
      go_wp2_with fail
      refine (rows_any n d A1 c1 w1 (h1.more hb.size) (by omega) hc1).mono ?_
      rintro e w2 ⟨v2, rfl, hr2, hb2⟩
      go_wp2
      go_ret2
      rw [e3.out]
      exact ⟨_, rfl, hr2.base hb.size, hb.trans (hb2.mono hb.size)⟩
    · have hpos : 0 < r.length := List.length_pos_iff.2 hr
      have e2 := Lib.hid (hU2.out rfl hr)
      clear hU1 hU2 hU3 hr
      go_wp2
      go_ret2
      rw [e2.out]
      exact ⟨_, rfl, MRow.nil _ _, hb⟩
  · have n1 : ((er : Int) != 0) = true := by simp; omega
    have e1 := Lib.hid (hU1.out her)
    clear hU1 hU2 hU3
    go_wp2
    go_ret2
    rw [e1.out]
    exact ⟨_, rfl, MRow.nil _ _, hb⟩
end Go.Proofs.Ytgicbjpeagmfcaa.VecNestW
