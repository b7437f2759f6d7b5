/-
  The walk of ticketwardkeep.VecThere: it returns true and writes nothing that was there. Conditions: rows and bytes are of bulk at most 1048576.
-/
import Derived.Test.YtgicbjpeagmfcaaVecAlive
namespace Go.Proofs.Ytgicbjpeagmfcaa.VecThereL
open Go.RowKit BytesW RowsW VecFnsW VecNestW SameRowsW

set_option maxHeartbeats 4000000 in
set_option maxRecDepth 100000 in
theorem walk (n : Int) (a : Option Addr) (ls : List (List UInt8)) (c : Nat) (b : Option Addr) (l : List UInt8) (cb : Nat) (w : World) (_ : (Lit.int .i64 n).wf = true) (hA : Ms w w.heap.size a ls) (_ : ls.length ≤ c) (hl : VecM.total ls + ls.length ≤ 1048576) (hB : Bs w w.heap.size b l) (hcb : l.length ≤ cb) (hlb : l.length ≤ 1048576) :
    Calls Try.prog 6 #[.int .i64 n, .slice a ls.length c, .slice b l.length cb] w fun e w' => e = .returned (.bool true) ∧ Below w.heap.size w w' := by
  have HR := Lib.hid (fun h => VecM.rows_all (w := n) (rs := ls) h)
  have hpl := VecM.all_len n ls
  have hp := Lib.hid (fun w1 h => all_any n ls a c w1 h (by omega))
  unfold ByPost at hp
  generalize VecM.all n ls = P at *
  obtain ⟨er, p⟩ := P
  simp only at hpl hp HR
  have HA2 := Lib.hid (fun h => VecM.all_rows (w := n) (b := l) h)
  have HE2 := Lib.hid (@VecM.rows_err n l)
  have hrl := VecM.rows_len n l
  have hq := Lib.hid (fun w1 h => rows_any n l b cb w1 h (by omega) hcb)
  unfold RoPost at hq
  generalize VecM.rows n l = Q at *
  obtain ⟨er2, ms⟩ := Q
  simp only at hrl hq HA2 HE2
  go_enter Try.func6, Try.ntmps6
  go_wp2_with fail
  refine (VecAliveW.alive_any w).mono ?_
  rintro e w1 ⟨rfl, b1⟩
  go_wp2_with fail
  refine (hp.out w1 ((hA.below b1).more b1.size)).mono ?_
  clear hp
  rintro e w2 ⟨v, rfl, r2, b2'⟩
  have b2 := b1.trans (b2'.mono b1.size)
  obtain ⟨A1, c1, rfl, s1, hc1⟩ := r2.form2
  clear r2 b2' b1
  have hu1 := Lib.hid (rows_any n p A1 c1 w2 s1 (by omega) hc1)
  clear s1
  by_cases her : er = 0
  · subst her
    rw [HR.out rfl] at hu1
    clear HR
    go_wp2_with fail
    refine hu1.out.mono ?_
    clear hu1
    rintro e w3 ⟨v3, rfl, r3, b3'⟩
    simp only at r3
    have b3 := b2.trans (b3'.mono b2.size)
    clear b3' b2
    obtain ⟨A3, c3, rfl, s3, _⟩ := r3.form
    have hsame := Lib.hid (same_any ls ls A3 a c3 c w3.heap.size w.heap.size w3 s3 (hA.below b3) (by omega))
    clear r3 s3 hA
    have hdec : decide (ls = ls) = true := decide_eq_true rfl
    go_wp2_with fail
    refine hsame.out.mono ?_
    clear hsame
    rintro e w4 ⟨rfl, b4'⟩
    have b4 := b3.trans (b4'.mono b3.size)
    clear b4' b3
    go_wp2_with fail
    refine (hq.out w4 ((hB.below b4).more b4.size)).mono ?_
    clear hq
    rintro e w5 ⟨v5, rfl, r5, b5'⟩
    have b5 := b4.trans (b5'.mono b4.size)
    obtain ⟨A5, c5, rfl, s5, _⟩ := r5.form
    clear b5' b4 r5
    have hall := Lib.hid (all_any n ms A5 c5 w5 s5 (by omega))
    clear s5
    by_cases her2 : er2 = 0
    · subst her2
      rw [HA2.out rfl] at hall
      clear HA2 HE2
      go_wp2_with fail
      refine hall.out.mono ?_
      clear hall
      rintro e w6 ⟨v6, rfl, r6, b6'⟩
      simp only at r6
      have b6 := b5.trans (b6'.mono b5.size)
      obtain ⟨A6, c6, rfl, s6⟩ := r6.form
      have q6 := s6.conv c6
      have qb := (hB.below b6).conv cb
      clear r6 s6 b6' b5 hB
      go_wp2
      go_ret
      exact ⟨rfl, b6⟩
    · have n1 : ((er2 : Int) != 0) = true := by simp; omega
      have n2 : ((er2 : Int) == 0) = false := by simp; omega
      have hme := HE2.out her2
      subst hme
      clear HA2 HE2 hB
      unfold ByPost at hall
      generalize VecM.all n [] = P2 at *
      obtain ⟨er3, p3⟩ := P2
      go_wp2_with fail
      refine hall.out.mono ?_
      clear hall
      rintro e w6 ⟨v6, rfl, r6, b6'⟩
      have b6 := b5.trans (b6'.mono b5.size)
      clear r6 b6' b5
      go_wp2
      go_ret
      exact ⟨rfl, b6⟩
  · have m1 : ((er : Int) == 0) = false := by simp; omega
    clear HR hA
    unfold RoPost at hu1
    generalize VecM.rows n p = R at *
    obtain ⟨er9, m9⟩ := R
    go_wp2_with fail
    refine hu1.out.mono ?_
    clear hu1
    rintro e w3 ⟨v3, rfl, _, b3'⟩
    have b4 := b2.trans (b3'.mono b2.size)
    clear b3' b2
    go_wp2_with fail
    refine (hq.out w3 ((hB.below b4).more b4.size)).mono ?_
    clear hq
    rintro e w5 ⟨v5, rfl, r5, b5'⟩
    have b5 := b4.trans (b5'.mono b4.size)
    obtain ⟨A5, c5, rfl, s5, _⟩ := r5.form
    clear b5' b4 r5
    have hall := Lib.hid (all_any n ms A5 c5 w5 s5 (by omega))
    clear s5
    by_cases her2 : er2 = 0
    · subst her2
      rw [HA2.out rfl] at hall
      clear HA2 HE2
      go_wp2_with fail
      refine hall.out.mono ?_
      clear hall
      rintro e w6 ⟨v6, rfl, r6, b6'⟩
      simp only at r6
      have b6 := b5.trans (b6'.mono b5.size)
      obtain ⟨A6, c6, rfl, s6⟩ := r6.form
      have q6 := s6.conv c6
      have qb := (hB.below b6).conv cb
      clear r6 s6 b6' b5 hB
      go_wp2
      go_ret
      exact ⟨rfl, b6⟩
    · have n1 : ((er2 : Int) != 0) = true := by simp; omega
      have n2 : ((er2 : Int) == 0) = false := by simp; omega
      have hme := HE2.out her2
      subst hme
      clear HA2 HE2 hB
      unfold ByPost at hall
      generalize VecM.all n [] = P2 at *
      obtain ⟨er3, p3⟩ := P2
      go_wp2_with fail
      refine hall.out.mono ?_
      clear hall
      rintro e w6 ⟨v6, rfl, r6, b6'⟩
      have b6 := b5.trans (b6'.mono b5.size)
      clear r6 b6' b5
      go_wp2
      go_ret
      exact ⟨rfl, b6⟩
end Go.Proofs.Ytgicbjpeagmfcaa.VecThereL
