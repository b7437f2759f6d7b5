/-
  The walk of ticketwardlaw.VecRows: it returns true and writes nothing that was there. Conditions: rows and bytes are of bulk at most 1048576.
-/
import Derived.Test.YtgicbjpeagmfcaaVecNest
import Derived.Test.YtgicbjpeagmfcaaSameRows
namespace Go.Proofs.Ytgicbjpeagmfcaa.VecRowsL
open Go.RowKit BytesW RowsW VecFnsW VecNestW SameRowsW RefPutW RefTakeW RefAllW VecSplitW

set_option maxHeartbeats 8000000 in
set_option maxRecDepth 100000 in
theorem walk (o n : Int) (a : Option Addr) (ls : List (List UInt8)) (c : Nat) (b : Option Addr) (l : List UInt8) (cb : Nat) (w : World) (_ : (Lit.int .i64 o).wf = true) (_ : (Lit.int .i64 n).wf = true) (hA : Ms w w.heap.size a ls) (_ : ls.length ≤ c) (hl : VecM.total ls + ls.length ≤ 1048576) (hB : Bs w w.heap.size b l) (hcb : l.length ≤ cb) (hlb : l.length ≤ 1048576) :
    Calls Try.prog 4 #[.int .i64 o, .int .i64 n, .slice a ls.length c, .slice b l.length cb] w fun e w' => e = .returned (.bool true) ∧ Below w.heap.size w w' := by
  have hpl := VecM.all_len n ls
  have hp1 := Lib.hid (fun w1 h => all_any n ls a c w1 h (by omega))
  have hp2 := Lib.hid (fun w1 h => all_ref n ls a c w1 h (by omega))
  have hp3 := Lib.hid (fun w1 h => nest_any o n ls a c w1 h (by omega))
  have HN1 := Lib.hid (fun h : (VecM.all n ls).1 ≠ 0 => show VecM.nest o n ls = ((VecM.all n ls).1, []) from if_pos h)
  have HN2 := Lib.hid (fun h : (VecM.all n ls).1 = 0 => show VecM.nest o n ls = VecM.put o (VecM.all n ls).2 from if_neg (by simp [h]))
  generalize VecM.nest o n ls = N at *
  unfold ByPost at hp1 hp2
  generalize VecM.all n ls = P at *
  obtain ⟨er, p⟩ := P
  simp only at hpl hp1 hp2 HN1 HN2
  have hrl := VecM.rows_len n l
  have hq1 := Lib.hid (fun w1 h => rows_any n l b cb w1 h (by omega) hcb)
  have hq2 := Lib.hid (fun w1 h => rows_ref n l.length l b cb w1 (Nat.le_refl _) h (by omega) hcb)
  have hq3 := Lib.hid (fun w1 h => unnest_any o n l b cb w1 h (by omega) hcb)
  have hq4 := Lib.hid (fun w1 h => take_ref o l b cb w.heap.size w1 h (by omega) hcb)
  have htl := VecM.take_lens o l
  have HU1 := Lib.hid (fun h : (VecM.take o l).1 ≠ 0 => show VecM.unnest o n l = ((VecM.take o l).1, []) from if_pos h)
  have HU2 := Lib.hid (fun (h : (VecM.take o l).1 = 0) (h2 : (VecM.take o l).2.2 ≠ []) => show VecM.unnest o n l = (1, []) from by unfold VecM.unnest; rw [if_neg (by simp [h]), if_pos h2])
  have HU3 := Lib.hid (fun (h : (VecM.take o l).1 = 0) (h2 : (VecM.take o l).2.2 = []) => show VecM.unnest o n l = VecM.rows n (VecM.take o l).2.1 from by unfold VecM.unnest; rw [if_neg (by simp [h]), if_neg (by simp [h2])])
  have hrd := VecM.rows_len n (VecM.take o l).2.1
  have hul : (VecM.unnest o n l).2.length ≤ l.length := by
    unfold VecM.unnest
    split
    · simp
    · split
      · simp
      · omega
  generalize VecM.unnest o n l = U at *
  unfold RoPost at hq1 hq2
  generalize VecM.rows n l = Q at *
  obtain ⟨er2, ms⟩ := Q
  unfold SplitPost at hq4
  generalize VecM.take o l = T at *
  obtain ⟨et, d, r⟩ := T
  simp only at hrl hq1 hq2 hq4 htl HU1 HU2 HU3 hrd
  go_enter Try.func4, Try.ntmps4
  go_wp2_with fail
  refine (hp1.out w hA).mono ?_
  rintro e w1 ⟨v1, rfl, r1, b1⟩
  have hA1 := (hA.below b1).more b1.size
  clear hp1
  go_wp2_with fail
  refine (hp2.out w1 hA1).mono ?_
  rintro e w2 ⟨v2, rfl, r2, b2'⟩
  have r1 := r1.below b2'
  have b2 := b1.trans (b2'.mono b1.size)
  clear hp2 hA1 b2' b1
  go_wp2_with fail
  refine (hq1.out w2 ((hB.below b2).more b2.size)).mono ?_
  rintro e w3 ⟨v3, rfl, r3, b3'⟩
  have r1 := r1.below b3'
  have r2 := r2.below b3'
  have b3 := b2.trans (b3'.mono b2.size)
  clear hq1 b3' b2
  go_wp2_with fail
  refine (hq2.out w3 ((hB.below b3).more b3.size)).mono ?_
  rintro e w4 ⟨v4, rfl, r4, b4'⟩
  have r1 := r1.below b4'
  have r2 := r2.below b4'
  have r3 := r3.below b4'
  have b4 := b3.trans (b4'.mono b3.size)
  clear hq2 b4' b3
  unfold ByPost at hp3
  unfold RoPost at hq3
  obtain ⟨en, nn⟩ := N
  obtain ⟨eu, uu⟩ := U
  simp only at hul
  go_wp2_with fail
  refine (hp3.out w4 ((hA.below b4).more b4.size)).mono ?_
  rintro e w5 ⟨v5, rfl, r5, b5'⟩
  try simp only at r5
  have r1 := r1.below b5'
  have r2 := r2.below b5'
  have r3 := r3.below b5'
  have r4 := r4.below b5'
  have b5 := b4.trans (b5'.mono b4.size)
  clear hp3 b5' b4
  go_wp2_with fail
  refine (hq3.out w5 ((hB.below b5).more b5.size)).mono ?_
  rintro e w6 ⟨v6, rfl, r6, b6'⟩
  try simp only at r6
  obtain ⟨A1, c1, rfl, s1, _⟩ := (r1.below b6').form2
  obtain ⟨A2, c2, rfl, s2, _⟩ := (r2.below b6').form2
  obtain ⟨A3, c3, rfl, s3, _⟩ := (r3.below b6').form
  obtain ⟨A4, c4, rfl, s4, _⟩ := (r4.below b6').form
  obtain ⟨A5, c5, rfl, s5, _⟩ := (r5.below b6').form2
  obtain ⟨A6, c6, rfl, s6, _⟩ := r6.form
  have b6 := b5.trans (b6'.mono b5.size)
  clear hq3 b6' b5 r1 r2 r3 r4 r5 r6 hA
  have q1 := s1.conv c1
  have q2 := s2.conv c2
  have hsame := Lib.hid (same_any ms ms A3 A4 c3 c4 _ _ w6 s3 s4 (by omega))
  have hdec : decide (ms = ms) = true := decide_eq_true rfl
  clear s3 s4 s1
  go_wp2_with fail
  refine hsame.out.mono ?_
  rintro e w7 ⟨rfl, b7'⟩
  have s2 := (s2.below b7').more b7'.size
  have s5 := (s5.below b7').more b7'.size
  have s6 := (s6.below b7').more b7'.size
  have b7 := b6.trans (b7'.mono b6.size)
  clear hsame b7' b6 q1 q2
  by_cases her : er = 0
  · subst her
    have hN := HN2.out rfl
    have hput := put_ref o p A2 c2 w7 s2 (by omega)
    rw [← hN] at hput
    have HP := Lib.hid hput
    clear hput hN HN1 HN2 s2
    unfold ByPost at HP
    simp only at HP
    go_wp2_with fail
    refine HP.out.mono ?_
    rintro e w8 ⟨v8, rfl, r8, b8'⟩
    have s5 := (s5.below b8').more b8'.size
    have s6 := (s6.below b8').more b8'.size
    have b8 := b7.trans (b8'.mono b7.size)
    obtain ⟨A8, c8, rfl, s8, _⟩ := r8.form2
    have q5 := s5.conv c5
    have q8 := s8.conv c8
    clear HP r8 s8 b8' b7 s5
    go_wp2_with fail
    refine (hq4.out w8 (hB.below b8)).mono ?_
    rintro e w9 ⟨A9, c9, A10, c10, rfl, s9, hc9, _, _, b9'⟩
    have s6 := (s6.below b9').more b9'.size
    have b9 := b8.trans (b9'.mono b8.size)
    clear hq4 b9' b8 q5 q8 hB
    by_cases het : et = 0
    · subst het
      by_cases hr : r = []
      · subst hr
        have hU := HU3.out rfl rfl
        have hrow := rows_ref n d.length d A9 c9 w9 (Nat.le_refl _) (s9.more b9.size) (by omega) hc9
        rw [← hU] at hrow
        have HR := Lib.hid hrow
        clear hrow hU HU1 HU2 HU3 s9 hrd
        unfold RoPost at HR
        simp only at HR
        go_wp2_with fail
        refine HR.out.mono ?_
        rintro e w10 ⟨v10, rfl, r10, b10'⟩
        have s6 := (s6.below b10').more b10'.size
        have b10 := b9.trans (b10'.mono b9.size)
        obtain ⟨A11, c11, rfl, s11, _⟩ := r10.form
        have hsame := Lib.hid (same_any uu uu A6 A11 c6 c11 _ _ w10 s6 s11 (by omega))
        have hdec2 : decide (uu = uu) = true := decide_eq_true rfl
        clear HR r10 s11 s6 b10' b9
        go_wp2_with fail
        refine hsame.out.mono ?_
        rintro e w11 ⟨rfl, b11⟩
        go_wp2
        go_ret
        exact ⟨rfl, b10.trans (b11.mono b10.size)⟩
      · have hpos : 0 < r.length := List.length_pos_iff.2 hr
        have hU := HU2.out rfl hr
        simp only [Prod.mk.injEq] at hU
        obtain ⟨rfl, rfl⟩ := hU
        have hsame := Lib.hid (same_any [] [] A6 none c6 0 _ _ w9 s6 (Ms.nil w9 w9.heap.size none) (by decide))
        clear HU1 HU2 HU3 s9 s6 hr
        go_wp2_with fail
        refine hsame.out.mono ?_
        rintro e w11 ⟨rfl, b11⟩
        go_wp2
        go_ret
        exact ⟨rfl, b9.trans (b11.mono b9.size)⟩
    · have m2 : ((et : Int) != 0) = true := by simp; omega
      have hU := HU1.out het
      simp only [Prod.mk.injEq] at hU
      obtain ⟨rfl, rfl⟩ := hU
      have hsame := Lib.hid (same_any [] [] A6 none c6 0 _ _ w9 s6 (Ms.nil w9 w9.heap.size none) (by decide))
      clear HU1 HU2 HU3 s9 s6
      go_wp2_with fail
      refine hsame.out.mono ?_
      rintro e w11 ⟨rfl, b11⟩
      go_wp2
      go_ret
      exact ⟨rfl, b9.trans (b11.mono b9.size)⟩
  · have m1 : ((er : Int) == 0) = false := by simp; omega
    have hN := HN1.out her
    simp only [Prod.mk.injEq] at hN
    obtain ⟨rfl, rfl⟩ := hN
    have q5 : (convert 22 9 (.slice A5 0 c5)).run Try.prog w7 = .ok (.string ⟨#[]⟩) w7 := s5.conv c5
    have q8 : (convert 22 9 (.slice none 0 0)).run Try.prog w7 = .ok (.string ⟨#[]⟩) w7 := (Bs.nil w7 w7.heap.size none).conv 0
    have b8 := b7
    clear HN1 HN2 s2 s5 b7
    go_wp2_with fail
    refine (hq4.out w7 (hB.below b8)).mono ?_
    rintro e w9 ⟨A9, c9, A10, c10, rfl, s9, hc9, _, _, b9'⟩
    have s6 := (s6.below b9').more b9'.size
    have b9 := b8.trans (b9'.mono b8.size)
    clear hq4 b9' b8 q5 q8 hB
    by_cases het : et = 0
    · subst het
      by_cases hr : r = []
      · subst hr
        have hU := HU3.out rfl rfl
        have hrow := rows_ref n d.length d A9 c9 w9 (Nat.le_refl _) (s9.more b9.size) (by omega) hc9
        rw [← hU] at hrow
        have HR := Lib.hid hrow
        clear hrow hU HU1 HU2 HU3 s9 hrd
        unfold RoPost at HR
        simp only at HR
        go_wp2_with fail
        refine HR.out.mono ?_
        rintro e w10 ⟨v10, rfl, r10, b10'⟩
        have s6 := (s6.below b10').more b10'.size
        have b10 := b9.trans (b10'.mono b9.size)
        obtain ⟨A11, c11, rfl, s11, _⟩ := r10.form
        have hsame := Lib.hid (same_any uu uu A6 A11 c6 c11 _ _ w10 s6 s11 (by omega))
        have hdec2 : decide (uu = uu) = true := decide_eq_true rfl
        clear HR r10 s11 s6 b10' b9
        go_wp2_with fail
        refine hsame.out.mono ?_
        rintro e w11 ⟨rfl, b11⟩
        go_wp2
        go_ret
        exact ⟨rfl, b10.trans (b11.mono b10.size)⟩
      · have hpos : 0 < r.length := List.length_pos_iff.2 hr
        have hU := HU2.out rfl hr
        simp only [Prod.mk.injEq] at hU
        obtain ⟨rfl, rfl⟩ := hU
        have hsame := Lib.hid (same_any [] [] A6 none c6 0 _ _ w9 s6 (Ms.nil w9 w9.heap.size none) (by decide))
        clear HU1 HU2 HU3 s9 s6 hr
        go_wp2_with fail
        refine hsame.out.mono ?_
        rintro e w11 ⟨rfl, b11⟩
        go_wp2
        go_ret
        exact ⟨rfl, b9.trans (b11.mono b9.size)⟩
    · have m2 : ((et : Int) != 0) = true := by simp; omega
      have hU := HU1.out het
      simp only [Prod.mk.injEq] at hU
      obtain ⟨rfl, rfl⟩ := hU
      have hsame := Lib.hid (same_any [] [] A6 none c6 0 _ _ w9 s6 (Ms.nil w9 w9.heap.size none) (by decide))
      clear HU1 HU2 HU3 s9 s6
      go_wp2_with fail
      refine hsame.out.mono ?_
      rintro e w11 ⟨rfl, b11⟩
      go_wp2
      go_ret
      exact ⟨rfl, b9.trans (b11.mono b9.size)⟩
end Go.Proofs.Ytgicbjpeagmfcaa.VecRowsL
