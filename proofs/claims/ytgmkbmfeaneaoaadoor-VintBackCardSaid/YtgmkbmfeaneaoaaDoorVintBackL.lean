/-
  The walk of ticketwardkeep.VintBack: it returns true and writes nothing that was there. Conditions: the table of math/bits, the form's own reach.
-/
import Derived.Test.YtgmkbmfeaneaoaaDoorVintAlive
import Derived.Test.YtgmkbmfeaneaoaaDoorSConcat
import Derived.Deep.QuietTactic
import Derived.BigQuiet
namespace Go.Proofs.YtgmkbmfeaneaoaaDoor.VintBackL
open Go.RowKit BytesW RowsW VintM VintLongW VintTakeW VintPutW VintAliveW SConcatW

theorem conv_take {w : World} {B : Nat} {A : Option Addr} {l E : List UInt8} {j : Nat} (h : Bs w B A l) (c : Nat) (hj : j ≤ l.length) (hE : E = l.take j) :
    (convert 22 9 (.slice A j c)).run Tryd.prog w = .ok (.string ⟨E.toArray⟩) w := by
  subst hE
  have := (h.take j).conv c
  rw [List.length_take, Nat.min_eq_left hj] at this
  exact this

set_option maxHeartbeats 4000000 in
set_option maxRecDepth 100000 in
theorem walk (n : Int) (a : Option Addr) (l : List UInt8) (c : Nat) (w : World) (_ : (Lit.int .i64 n).wf = true) (hA : Bs w w.heap.size a l) (hca : l.length ≤ c) (hl : l.length ≤ 140737488351232) (hT : Tab w) :
    Calls Tryd.prog 4 #[.int .i64 n, .slice a l.length c] w fun e w' => e = .returned (.bool true) ∧ Below w.heap.size w w' := by
  have HA := Lib.hid (alive_any w hT)
  have hp := Lib.hid (fun w h => put_any n w h)
  have hs := Lib.hid (fun B w h => strict_any l a c B w h hca)
  have HT := Lib.hid hT
  have hpl := put_len n
  clear hT
  unfold ByPost at hp
  unfold ThPost at hs
  have HC := Lib.hid (strict_cases l)
  have HN := Lib.hid (put_cases n)
  have HSP := Lib.hid (fun m h => @strict_put m h l)
  obtain ⟨P, hP⟩ : ∃ P, put n = P := ⟨_, rfl⟩
  rw [hP] at hp hpl HN
  clear hP
  obtain ⟨er, p⟩ := P
  simp only at hp hpl
  obtain ⟨S, hS⟩ : ∃ S, strict l = S := ⟨_, rfl⟩
  rw [hS] at hs HC
  clear hS
  obtain ⟨g, x, y⟩ := S
  simp only at hs
  have hx := Lib.hid (fun w h => put_any x w h)
  unfold ByPost at hx
  go_enter Tryd.func4, Tryd.ntmps4
  go_wp2_with fail
  refine HA.out.mono ?_
  clear HA
  rintro e w1 ⟨rfl, b1⟩
  have T1 := Lib.hid (HT.out.below b1)
  go_wp2_with fail
  refine (hp.out _ T1.out).mono ?_
  clear hp T1
  rintro e w2 ⟨v, rfl, r, b2⟩
  obtain ⟨A1, c1, rfl, s1, hc1⟩ := r.form2
  have b := b1.trans (b2.mono b1.size)
  have hcc := Lib.hid (concat2 w2 A1 a p l c1 c s1 ((hA.below b).more b.size) hc1 hca (by omega) w.heap.size b.size _ rfl)
  clear r b1 b2 s1
  go_wp2_with fail
  refine hcc.out.mono ?_
  clear hcc
  rintro e w3 ⟨A3, c3, rfl, s3, hc3, b3'⟩
  have b3 := b.trans b3'
  have hst := strict_any (p ++ l) A3 c3 _ w3 s3 hc3
  unfold ThPost at hst
  have HST := Lib.hid hst
  clear s3 b3' b hst
  have key : (er ≠ 0 ∧ ∃ S, strict (p ++ l) = S) ∨ (er = 0 ∧ strict (p ++ l) = (0, n.toNat, p.length) ∧ n = n.toNat) := by
    rcases HN.out with ⟨e, _⟩ | ⟨m, e1, hm, e⟩
    · cases e; exact .inl ⟨by decide, _, rfl⟩
    · cases e
      refine .inr ⟨rfl, ?_, by omega⟩
      rw [HSP.out m hm, enc_length (lng_isK m), e1, Int.toNat_natCast]
  clear HN HSP
  generalize p ++ l = pl at *
  rcases key with ⟨her, S, hS⟩ | ⟨rfl, hS, hn⟩
  · rw [hS] at HST
    obtain ⟨g2, x2, y2⟩ := S
    simp only at HST
    have t1 : ((er : Int) == 0) = false := beq_eq_false_iff_ne.2 (by omega)
    clear hS her
    go_wp2_with fail
    refine HST.out.mono ?_
    clear HST
    rintro e w' ⟨rfl, rfl⟩
    go_wp2_with fail
    refine (hs.out _ w3 (hA.below b3)).mono ?_
    clear hs
    rintro e w' ⟨rfl, rfl⟩
    have T3 := Lib.hid (HT.out.below b3)
    go_wp2_with fail
    refine (hx.out _ T3.out).mono ?_
    clear hx T3
    rintro e w4 ⟨v4, rfl, r4, b4'⟩
    have b4 := b3.trans (b4'.mono b3.size)
    obtain ⟨A4, c4, rfl, s4, _⟩ := r4.form2
    have k4 := fun n => (s4.below (drewN (Below.refl _ w4) n)).conv c4
    clear r4 s4
    rcases HC.out with ⟨e, he, h8⟩ | ⟨u, k, he, hu, hk, hkl, hE⟩
    · simp only [Prod.mk.injEq] at he
      obtain ⟨rfl, rfl, rfl⟩ := he
      have n1 : ((g : Int) != 0) = true := bne_iff_ne.2 (by omega)
      have n2 : ((g : Int) == 0) = false := beq_eq_false_iff_ne.2 (by omega)
      clear h8 k4 hpl b4' b3
      generalize put ((0 : Nat) : Int) = P0 at *
      obtain ⟨e0, q0⟩ := P0
      simp only at *
      go_wp2
      go_quiet (fail)
      go_wp2
      go_ret
      exact ⟨rfl, drewN b4 _⟩
    · simp only [Prod.mk.injEq] at he
      obtain ⟨rfl, rfl, rfl⟩ := he
      have kb := fun n => conv_take (hA.below (drewN b4 n)) c hkl hE
      have hput := put_yes hu
      rw [← hk] at hput
      rw [hput] at k4 ⊢
      simp only at k4 ⊢
      clear hput
      have d1 : decide (y ≤ l.length) = true := decide_eq_true hkl
      have d2 : y ≤ c := by omega
      clear hE hk hu hpl b4' b3
      generalize enc x y = E at *
      go_wp2
      go_quiet (fail)
      go_wp2
      go_ret
      exact ⟨rfl, drewN b4 _⟩
  · rw [hS] at HST
    simp only at HST
    clear hS
    generalize n.toNat = m at *
    subst hn
    go_wp2_with fail
    refine HST.out.mono ?_
    clear HST
    rintro e w' ⟨rfl, rfl⟩
    go_wp2_with fail
    refine (hs.out _ w3 (hA.below b3)).mono ?_
    clear hs
    rintro e w' ⟨rfl, rfl⟩
    have T3 := Lib.hid (HT.out.below b3)
    go_wp2_with fail
    refine (hx.out _ T3.out).mono ?_
    clear hx T3
    rintro e w4 ⟨v4, rfl, r4, b4'⟩
    have b4 := b3.trans (b4'.mono b3.size)
    obtain ⟨A4, c4, rfl, s4, _⟩ := r4.form2
    have k4 := fun n => (s4.below (drewN (Below.refl _ w4) n)).conv c4
    clear r4 s4
    rcases HC.out with ⟨e, he, h8⟩ | ⟨u, k, he, hu, hk, hkl, hE⟩
    · simp only [Prod.mk.injEq] at he
      obtain ⟨rfl, rfl, rfl⟩ := he
      have n1 : ((g : Int) != 0) = true := bne_iff_ne.2 (by omega)
      have n2 : ((g : Int) == 0) = false := beq_eq_false_iff_ne.2 (by omega)
      clear h8 k4 hpl b4' b3
      generalize put ((0 : Nat) : Int) = P0 at *
      obtain ⟨e0, q0⟩ := P0
      simp only at *
      go_wp2
      go_quiet (fail)
      go_wp2
      go_ret
      exact ⟨rfl, drewN b4 _⟩
    · simp only [Prod.mk.injEq] at he
      obtain ⟨rfl, rfl, rfl⟩ := he
      have kb := fun n => conv_take (hA.below (drewN b4 n)) c hkl hE
      have hput := put_yes hu
      rw [← hk] at hput
      rw [hput] at k4 ⊢
      simp only at k4 ⊢
      clear hput
      have d1 : decide (y ≤ l.length) = true := decide_eq_true hkl
      have d2 : y ≤ c := by omega
      clear hE hk hu hpl b4' b3
      generalize enc x y = E at *
      go_wp2
      go_quiet (fail)
      go_wp2
      go_ret
      exact ⟨rfl, drewN b4 _⟩
end Go.Proofs.YtgmkbmfeaneaoaaDoor.VintBackL
