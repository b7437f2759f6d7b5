/-
  The walk of ticketwardkeep.VecNests: it returns true and writes nothing that was there. Conditions: the rows are of bulk at most 1048576.
-/
import Derived.Test.YtgicbjpeagmfcaaVecAlive
import Derived.Test.YtgicbjpeagmfcaaSClone
namespace Go.Proofs.Ytgicbjpeagmfcaa.VecNestsL
open Go.RowKit BytesW RowsW VecFnsW VecNestW SameRowsW

set_option maxHeartbeats 4000000 in
set_option maxRecDepth 100000 in
theorem walk (o n : Int) (a : Option Addr) (ls : List (List UInt8)) (c : Nat) (more : Int) (w : World) (_ : (Lit.int .i64 o).wf = true) (_ : (Lit.int .i64 n).wf = true) (hA : Ms w w.heap.size a ls) (_ : ls.length ≤ c) (hl : VecM.total ls + ls.length ≤ 1048576) (hm : (Lit.int .u8 more).wf = true) :
    Calls Try.prog 7 #[.int .i64 o, .int .i64 n, .slice a ls.length c, .int .u8 more] w fun e w' => e = .returned (.bool true) ∧ Below w.heap.size w w' := by
  have hx : 0 ≤ more ∧ more ≤ 255 := by simpa [Lit.wf, IntKind.min, IntKind.max, IntKind.signed, IntKind.bits] using hm
  obtain ⟨y, rfl⟩ := byte_of more hx.1 hx.2
  clear hx hm
  have HU := Lib.hid (fun h => VecM.unnest_nest (o := o) (i := n) (rs := ls) h)
  have HM := Lib.hid (fun h => VecM.unnest_more (o := o) (i := n) (rs := ls) y h)
  have HE := Lib.hid (@VecM.nest_err o n ls)
  have hpl : (VecM.nest o n ls).2.length ≤ 16777218 := by
    unfold VecM.nest
    split
    · simp
    · exact VecM.put_len _ _
  have hp := Lib.hid (fun w1 h => nest_any o n ls a c w1 h (by omega))
  unfold ByPost at hp
  generalize VecM.nest o n ls = P at *
  obtain ⟨er, p⟩ := P
  simp only at hpl hp HU HM HE
  go_enter Try.func7, Try.ntmps7
  go_wp2_with fail
  refine (VecAliveW.alive_any w).mono ?_
  rintro e w1 ⟨rfl, b1⟩
  go_wp2_with fail
  refine (hp.out w1 ((hA.below b1).more b1.size)).mono ?_
  clear hp
  rintro e w2 ⟨v, rfl, r2, b2'⟩
  have b2 := b1.trans (b2'.mono b1.size)
  obtain ⟨A1, c1, rfl, s1, hc1⟩ := r2.form2
  clear r2 b2' b1
  by_cases her : er = 0
  · subst her
    have hu1 := unnest_any o n p A1 c1 w2 s1 (by omega) hc1
    rw [HU.out rfl] at hu1
    have HU1 := Lib.hid hu1
    clear hu1 HU HE
    go_wp2_with fail
    refine HU1.out.mono ?_
    clear HU1
    rintro e w3 ⟨v3, rfl, r3, b3'⟩
    simp only at r3
    have b3 := b2.trans (b3'.mono b2.size)
    have s1 := (s1.below b3').more b3'.size
    clear b3' b2
    go_wp2_with fail
    refine (SCloneW.clone_any A1 p c1 w3 s1 (by omega)).mono ?_
    rintro e w4 ⟨v4, rfl, r4, b4'⟩
    have hnew := new1 w4 (y.toNat : Int) y rfl
    have hB := b4'.size
    have hal := (b4'.alloc hB (.cells #[.int .u8 (y.toNat : Int)] 5))
    clear s1
    go_wp2_with (at_builtin; go_must (refine app1 rfl (.tmp 40) (.tmp 42) rfl w3.heap.size _ p rfl (r4.alloc _) ⟨w4.heap.size, 0, none⟩ 1 y rfl hnew (by omega) (by simp; omega) ?_))
    intro v5 w5 r5 hb5
    have b5' := hal.trans hb5
    have b5 := b3.trans (b5'.mono b3.size)
    have r3 := r3.below b5'
    have hlen5 : (p ++ [y]).length ≤ 16777219 := by simp; omega
    have HM' := Lib.hid (HM.out (by first | rfl | trivial))
    generalize p ++ [y] = py at *
    obtain ⟨A5, c5, rfl, s5, hc5⟩ := r5.form2
    have hu2 := unnest_any o n py A5 c5 w5 s5 (by omega) hc5
    rw [HM'.out] at hu2
    have HU2 := Lib.hid hu2
    clear hu2 HM HM' hnew hB hal hb5 b4' r4 r5 s5 b3 b5'
    go_wp2_with fail
    refine HU2.out.mono ?_
    clear HU2
    rintro e w6 ⟨v6, rfl, _, b6'⟩
    have b6 := b5.trans (b6'.mono b5.size)
    have r3 := r3.below b6'
    obtain ⟨A3, c3, rfl, s3, _⟩ := r3.form
    have hA6 := hA.below b6
    have hsame := Lib.hid (same_any ls ls A3 a c3 c w6.heap.size w.heap.size w6 s3 hA6 (by omega))
    clear r3 s3 hA6 hA b5 b6'
    go_wp2_with fail
    refine hsame.out.mono ?_
    clear hsame
    rintro e w7 ⟨rfl, b7⟩
    have hdec : decide (ls = ls) = true := decide_eq_true rfl
    go_wp2
    go_ret
    exact ⟨rfl, b6.trans (b7.mono b6.size)⟩
  · have n1 : ((er : Int) != 0) = true := by simp; omega
    have hpe := HE.out her
    subst hpe
    clear HU HM HE s1
    go_wp2
    go_ret
    exact ⟨rfl, b2⟩
end Go.Proofs.Ytgicbjpeagmfcaa.VecNestsL
