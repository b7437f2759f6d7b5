/-
  The walk of ticketwardkeep.VecShort: it returns true and writes nothing that was there. Conditions: the form's own reach.
-/
import Derived.Test.YtgicbjpeagmfcaaVecAlive
namespace Go.Proofs.Ytgicbjpeagmfcaa.VecShortL
open Go.RowKit BytesW VecFnsW

set_option maxHeartbeats 4000000 in
set_option maxRecDepth 100000 in
theorem walk (n : Int) (a : Option Addr) (l : List UInt8) (c : Nat) (cut : Int) (w : World) (_ : (Lit.int .i64 n).wf = true) (hA : Bs w w.heap.size a l) (_ : l.length ≤ c) (hl : l.length ≤ 140737488351232) (_ : (Lit.int .i64 cut).wf = true) :
    Calls Try.prog 8 #[.int .i64 n, .slice a l.length c, .int .i64 cut] w fun e w' => e = .returned (.bool true) ∧ Below w.heap.size w w' := by
  have hpl := VecM.put_len n l
  have HC := Lib.hid (fun (h : (VecM.put n l).1 = 0) k hk => VecM.take_cut h k hk)
  go_enter Try.func8, Try.ntmps8
  go_wp2_with fail
  refine (VecAliveW.alive_any w).mono ?_
  rintro e w1 ⟨rfl, b1⟩
  have hp := Lib.hid (put_any n l a c w1 ((hA.below b1).more b1.size) (by omega))
  clear hA
  unfold ByPost at hp
  generalize VecM.put n l = P at *
  obtain ⟨er, p⟩ := P
  simp only at hpl hp HC
  go_wp2_with fail
  refine hp.out.mono ?_
  clear hp
  rintro e w2 ⟨v, rfl, r2, b2'⟩
  have b2 := b1.trans (b2'.mono b1.size)
  obtain ⟨A1, c1, rfl, s1, hc1⟩ := r2.form2
  clear r2 b2' b1
  by_cases her : er = 0
  · subst her
    have HC' := Lib.hid (HC.out rfl)
    clear HC
    by_cases h0 : cut < 0
    · clear s1
      go_wp2
      go_ret
      exact ⟨rfl, b2⟩
    · have d0 : decide (cut < 0) = false := decide_eq_false h0
      obtain ⟨k, rfl⟩ : ∃ k : Nat, cut = k := ⟨cut.toNat, by omega⟩
      by_cases hk : p.length ≤ k
      · have hk' : (p.length : Int) ≤ k := by omega
        clear s1
        go_wp2
        go_ret
        exact ⟨rfl, b2⟩
      · have hk' : (k : Int) < p.length := by omega
        have dk : decide ((p.length : Int) ≤ k) = false := decide_eq_false (by omega)
        have hkc : (k : Int) ≤ c1 := by omega
        have hlk : (p.take k).length = k := by rw [List.length_take]; omega
        have ht := take_any n (p.take k) A1 c1 w2 (s1.take k) (by omega) (by omega)
        rw [hlk, HC'.out k (by omega)] at ht
        have HT := Lib.hid ht
        clear ht hlk s1 HC'
        go_wp2_with fail
        refine HT.out.mono ?_
        rintro e w3 ⟨v1, v2, rfl, r3, r4, b3⟩
        obtain ⟨A3, c3, rfl, _⟩ := r3.form
        obtain ⟨A4, c4, rfl, _⟩ := r4.form
        go_wp2
        go_ret
        exact ⟨rfl, b2.trans (b3.mono b2.size)⟩
  · have n1 : ((er : Int) != 0) = true := by simp; omega
    clear s1 HC
    go_wp2
    go_ret
    exact ⟨rfl, b2⟩
end Go.Proofs.Ytgicbjpeagmfcaa.VecShortL
