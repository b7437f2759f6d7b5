/-
  The walk of ticketwardkeep.VecWider: it returns true and writes nothing that was there. Conditions: the form's own reach.
-/
import Derived.Test.YtgicbjpeagmfcaaVecAlive
namespace Go.Proofs.Ytgicbjpeagmfcaa.VecWiderL
open Go.RowKit BytesW VecFnsW

theorem add_str (x y : List UInt8) (w : World) (h : x.length + y.length ≤ 4398046511104) : (Op.stringOp .add ⟨x.toArray⟩ ⟨y.toArray⟩).run Try.prog w = .ok (.string ⟨(x ++ y).toArray⟩) w := by
  rw [← cat_str x y]
  exact run_string_add_sum (P := Try.prog) (w := w) ⟨x.toArray⟩ ⟨y.toArray⟩ (by simp [ByteArray.size]; omega)

set_option maxHeartbeats 4000000 in
set_option maxRecDepth 100000 in
theorem walk (n : Int) (a : Option Addr) (l : List UInt8) (c : Nat) (w : World) (_ : (Lit.int .i64 n).wf = true) (hA : Bs w w.heap.size a l) (_ : l.length ≤ c) (hl : l.length ≤ 140737488351232) :
    Calls Try.prog 9 #[.int .i64 n, .slice a l.length c] w fun e w' => e = .returned (.bool true) ∧ Below w.heap.size w w' := by
  by_cases h1 : n < 1
  · go_enter Try.func9, Try.ntmps9
    go_wp2_with fail
    refine (VecAliveW.alive_any w).mono ?_
    rintro e w1 ⟨rfl, b1⟩
    go_wp2
    go_ret
    exact ⟨rfl, b1⟩
  · have d1 : decide (n < 1) = false := decide_eq_false h1
    by_cases h2 : 2 < n
    · clear h1
      go_enter Try.func9, Try.ntmps9
      go_wp2_with fail
      refine (VecAliveW.alive_any w).mono ?_
      rintro e w1 ⟨rfl, b1⟩
      go_wp2
      go_ret
      exact ⟨rfl, b1⟩
    · have d2 : decide (2 < n) = false := decide_eq_false h2
      have h1' : 1 ≤ n := by omega
      have h2' : n ≤ 2 := by omega
      clear h1 h2
      have HW := Lib.hid (fun h => VecM.wider (b := l) h1' h2' h)
      have HE := Lib.hid (@VecM.put_err n l)
      have hpl := VecM.put_len n l
      go_enter Try.func9, Try.ntmps9
      go_wp2_with fail
      refine (VecAliveW.alive_any w).mono ?_
      rintro e w1 ⟨rfl, b1⟩
      have hA1 := (hA.below b1).more b1.size
      have hp := Lib.hid (put_any n l a c w1 hA1 (by omega))
      unfold ByPost at hp
      generalize VecM.put n l = P at *
      obtain ⟨er, p⟩ := P
      simp only at hp HW HE hpl
      go_wp2_with fail
      refine hp.out.mono ?_
      clear hp hA
      rintro e w2 ⟨v, rfl, r2, b2'⟩
      have b2 := b1.trans (b2'.mono b1.size)
      have hA2 := (hA1.below b2').more b2'.size
      have hp := Lib.hid (put_any (n + 1) l a c w2 hA2 (by omega))
      clear hA1 b2' b1
      by_cases her : er = 0
      · subst her
        have hw := HW.out rfl
        rw [hw] at hp
        clear hw HW HE hA2
        go_wp2_with fail
        refine hp.out.mono ?_
        clear hp
        rintro e w3 ⟨v3, rfl, r3, b3⟩
        simp only at r3
        obtain ⟨A1, c1, rfl, s1⟩ := (r2.below b3).form
        obtain ⟨A3, c3, rfl, s3⟩ := r3.form
        have q1 := s1.conv c1
        have q3 : (convert 22 9 (.slice A3 (p.length + 1) c3)).run Try.prog w3 = .ok (.string ⟨(0 :: p).toArray⟩) w3 := s3.conv c3
        have hcat := add_str [0] p w3 (by simp; omega)
        clear r2 r3 s1 s3
        have hbb := b2.trans (b3.mono b2.size)
        clear b3
        go_wp2
        go_ret
        exact ⟨rfl, hbb⟩
      · have n1 : ((er : Int) != 0) = true := by simp; omega
        have hpe := HE.out her
        subst hpe
        clear HW HE hA2
        unfold ByPost at hp
        generalize VecM.put (n + 1) l = P2 at *
        obtain ⟨er2, p2⟩ := P2
        go_wp2_with fail
        refine hp.out.mono ?_
        clear hp
        rintro e w3 ⟨v3, rfl, r3, b3⟩
        obtain ⟨A1, c1, rfl, s1⟩ := r2.form
        clear r2 r3 s1
        have hbb := b2.trans (b3.mono b2.size)
        clear b3
        go_wp2
        go_ret
        exact ⟨rfl, hbb⟩
end Go.Proofs.Ytgicbjpeagmfcaa.VecWiderL
