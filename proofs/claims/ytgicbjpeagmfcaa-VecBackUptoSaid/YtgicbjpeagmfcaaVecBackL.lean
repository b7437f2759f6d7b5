/-
  The walk of ticketwardkeep.VecBack: it returns true and writes nothing that was there. Conditions: each slice has at most 1048576 bytes.
-/
import Derived.Test.YtgicbjpeagmfcaaVecAlive
import Derived.Test.YtgicbjpeagmfcaaSConcat
import Derived.Test.YtgicbjpeagmfcaaTail
import Derived.Deep.QuietTactic
import Derived.BigQuiet
namespace Go.Proofs.Ytgicbjpeagmfcaa.VecBackL
open Go.RowKit BytesW RowsW VecFnsW SConcatW

theorem concat2 (W : World) (a1 a2 : Option Addr) (l1 l2 : List UInt8) (c1 c2 : Nat) (h1 : Bs W W.heap.size a1 l1) (h2 : Bs W W.heap.size a2 l2) (hc1 : l1.length ≤ c1) (hc2 : l2.length ≤ c2) (hl : l1.length + l2.length ≤ 140737488355328) (B : Nat) (hB : B ≤ W.heap.size) (V : World) (hV : V = W.alloc (.cells #[.slice a1 l1.length c1, .slice a2 l2.length c2] 22)) :
    Calls Try.prog 22 #[.slice (some ⟨W.heap.size, 0, none⟩) 2 2] V fun e w' => ∃ A c, e = .returned (.slice A (l1 ++ l2).length c) ∧ Bs w' w'.heap.size A (l1 ++ l2) ∧ (l1 ++ l2).length ≤ c ∧ Below B W w' := by
  subst hV
  have hm := Ms.laid2 W a1 a2 l1 l2 _ _ c1 c2 rfl rfl h1 h2 hc1 hc2 (0, 0) (W.heap.size + 1) (by omega)
  refine (concat_any (some ⟨W.heap.size, 0, none⟩) [l1, l2] 2 _ (by simpa using hm) (by simp [tot]; omega) (by simp)).mono ?_
  rintro e w' ⟨v, rfl, r, b⟩
  obtain ⟨A, c, rfl, s, hc⟩ := r.form2
  simp only [List.flatten_cons, List.flatten_nil, List.append_nil] at s hc ⊢
  refine ⟨A, c, rfl, s, hc, (((Below.refl B W).alloc hB _).trans (b.mono ?_))⟩
  simp
  omega

set_option maxHeartbeats 4000000 in
set_option maxRecDepth 100000 in
theorem walk (n : Int) (a : Option Addr) (l : List UInt8) (c : Nat) (ar : Option Addr) (m : List UInt8) (cr : Nat) (w : World) (_ : (Lit.int .i64 n).wf = true) (hA : Bs w w.heap.size a l) (hca : l.length ≤ c) (hl : l.length ≤ 1048576) (hR : Bs w w.heap.size ar m) (hcr : m.length ≤ cr) (hm : m.length ≤ 1048576) :
    Calls Try.prog 5 #[.int .i64 n, .slice a l.length c, .slice ar m.length cr] w fun e w' => e = .returned (.bool true) ∧ Below w.heap.size w w' := by
  have HPT := Lib.hid (@VecM.put_take n l)
  have HTE := Lib.hid (@VecM.take_err n l)
  have htl := VecM.take_lens n l
  have ht := Lib.hid (fun w1 h => take_any n l a c w1 h (by omega) hca)
  unfold TwPost at ht
  generalize VecM.take n l = T at *
  obtain ⟨g, u, x⟩ := T
  simp only at ht htl HPT HTE
  have hp2 := Lib.hid (fun A1 c1 w1 h => put_any n u A1 c1 w1 h (by omega))
  unfold ByPost at hp2
  have hpl2 := VecM.put_len n u
  generalize VecM.put n u = P2 at *
  obtain ⟨eh, y⟩ := P2
  simp only at hp2 HPT hpl2
  have HT := Lib.hid (fun h => VecM.take_put (w := n) (b := l) m h)
  have HE := Lib.hid (@VecM.put_err n l)
  have hpl := VecM.put_len n l
  have hp := Lib.hid (fun w1 h => put_any n l a c w1 h (by omega))
  unfold ByPost at hp
  generalize VecM.put n l = P at *
  obtain ⟨er, p⟩ := P
  simp only at hpl hp HT HE
  go_enter Try.func5, Try.ntmps5
  go_wp2_with fail
  refine (VecAliveW.alive_any w).mono ?_
  rintro e w1 ⟨rfl, b1⟩
  go_wp2_with fail
  refine (hp.out w1 ((hA.below b1).more b1.size)).mono ?_
  clear hp
  rintro e w2 ⟨v, rfl, r2, b2'⟩
  have b2 := b1.trans (b2'.mono b1.size)
  obtain ⟨A1, c1, rfl, s1, hc1⟩ := r2.form2
  clear r2 b2' b1
  have hcc := Lib.hid (concat2 w2 A1 ar p m c1 cr s1 ((hR.below b2).more b2.size) hc1 hcr (by omega) w.heap.size b2.size _ rfl)
  clear s1
  go_wp2_with fail
  refine hcc.out.mono ?_
  clear hcc
  rintro e w3 ⟨A3, c3, rfl, s3, hc3, b3'⟩
  have b3 := b2.trans b3'
  clear b3' b2
  have hpm : (p ++ m).length ≤ 17825794 := by rw [List.length_append]; omega
  have hta := Lib.hid (take_any n (p ++ m) A3 c3 w3 s3 (by omega) hc3)
  unfold TwPost at hta
  clear s3
  by_cases her : er = 0
  · subst her
    rw [HT.out rfl] at hta
    clear HT HE
    generalize p ++ m = pm at *
    go_wp2_with fail
    refine hta.out.mono ?_
    clear hta
    rintro e w4 ⟨v4, v5, rfl, r4, r5, b4'⟩
    have b4 := b3.trans (b4'.mono b3.size)
    obtain ⟨A4, c4, rfl, s4, _⟩ := r4.form2
    obtain ⟨A5, c5, rfl, s5, _⟩ := r5.form2
    have q4 := s4.conv c4
    have q5 := s5.conv c5
    have qa := (hA.below b4).conv c
    have qr := (hR.below b4).conv cr
    clear r4 r5 s4 s5 b4' b3
    go_wp2_with fail
    refine (ht.out w4 ((hA.below b4).more b4.size)).mono ?_
    clear ht
    rintro e w5 ⟨v6, v7, rfl, r6, r7, b5'⟩
    have b5 := b4.trans (b5'.mono b4.size)
    obtain ⟨A6, c6, rfl, s6, _⟩ := r6.form2
    clear r6 b5' b4
    go_wp2_with fail
    refine (hp2.out A6 c6 w5 s6).mono ?_
    clear hp2
    rintro e w6 ⟨v8, rfl, r8, b6'⟩
    have b6 := b5.trans (b6'.mono b5.size)
    obtain ⟨A7, c7, rfl, s7, hc7⟩ := (r7.below b6').form2
    obtain ⟨A8, c8, rfl, s8, hc8⟩ := r8.form2
    clear r7 r8 s6 b6' b5
    by_cases hg : g = 0
    · subst hg
      obtain ⟨rfl, hcat⟩ := HPT.out rfl
      have HC := Lib.hid (concat2 w6.drew A8 A7 y x c8 c7 s8 s7 hc8 hc7 (by omega) w.heap.size b6.size _ rfl)
      rw [hcat] at HC
      have k1 := fun x : Ab w => (hA.below x.property).conv c
      have b7 := b6.drew.alloc b6.size (.cells #[.slice A8 y.length c8, .slice A7 x.length c7] 22)
      clear HPT HTE s7 s8 hcat hpl hpl2 htl
      go_wp2_with fail
      have hSt := Cl.of b6.drew
      have hne := ab w
      refine wp_region_tail (S := fun W => ∃ x : Ab w, W = x.val) [true, true, true, true, true, true, true, true, true, true, true, true, true, true, true, true, true, true, true, true, false, false, false, true, true, false, false, false, false] (by kernel_rfl) (by kernel_rfl) rfl (fun _ _ d _ _ h => by cases d <;> exact h) hSt ?_
      repeat (first | (with_reducible refine wpPure_skip ?_) | ((with_reducible refine wpPure_step (fun K hK => ?_)); go_simp; refine hK _ ?_; clear hK K))
      (with_reducible refine wpPure_nil ?_)
      repeat (with_reducible refine wpTail_skip ?_)
      refine wpTail_step (fun K hK => ?_) hSt
      go_simp
      refine hK _ _ ⟨Cl.of b7, ?_⟩
      clear hK K
      refine wpTail_step (fun K hK => ?_) (Cl.of b7)
      go_simp
      refine HC.out.mono ?_
      rintro e W ⟨A9, c9, rfl, s9, hc9, b9⟩
      have b8 := b6.drew.trans b9
      have k3 := s9.conv c9
      simp only
      refine hK _ _ ⟨Cl.of b8, ?_⟩
      clear hK K s9
      refine wpTail_step (fun K hK => ?_) (Cl.of b8)
      go_simp
      refine hK _ _ ⟨Cl.of b8, ?_⟩
      clear hK K
      repeat (with_reducible refine wpTail_skip ?_)
      refine wpTail_step (fun K hK => ?_) (Cl.of b8)
      go_simp
      refine hK _ _ ⟨Cl.of b8, ?_⟩
      clear hK K
      refine wpTail_step (fun K hK => ?_) (Cl.of b8)
      go_simp
      refine hK _ _ ⟨Cl.of b8, ?_⟩
      clear hK K
      refine wpTail_step (fun K hK => ?_) (Cl.of b8)
      go_simp
      refine hK _ _ ⟨Cl.of b8, ?_⟩
      clear hK K
      refine wpTail_step (fun K hK => ?_) (Cl.of b8)
      go_simp
      refine hK _ _ ⟨Cl.of b8, ?_⟩
      clear hK K
      refine wpTail_nil ?_
      clear HC k1 k3
      go_wp2
      go_ret
      exact ⟨rfl, b8⟩
    · have n1 : ((g : Int) != 0) = true := by simp; omega
      have n2 : ((g : Int) == 0) = false := by simp; omega
      have hte := HTE.out hg
      simp only [Prod.mk.injEq] at hte
      obtain ⟨rfl, rfl⟩ := hte
      clear HPT HTE s7 s8
      go_wp2
      go_quiet (fail)
      go_wp2
      go_ret
      exact ⟨rfl, drewN b6 _⟩
  · have m1 : ((er : Int) == 0) = false := by simp; omega
    clear HT HE hR
    generalize VecM.take n (p ++ m) = T9 at *
    obtain ⟨e9, u9, x9⟩ := T9
    generalize p ++ m = pm at *
    go_wp2_with fail
    refine hta.out.mono ?_
    clear hta
    rintro e w4 ⟨v4, v5, rfl, r4, r5, b4'⟩
    have b4 := b3.trans (b4'.mono b3.size)
    clear r4 r5 b4' b3
    go_wp2_with fail
    refine (ht.out w4 ((hA.below b4).more b4.size)).mono ?_
    clear ht
    rintro e w5 ⟨v6, v7, rfl, r6, r7, b5'⟩
    have b5 := b4.trans (b5'.mono b4.size)
    obtain ⟨A6, c6, rfl, s6, _⟩ := r6.form2
    clear r6 b5' b4
    go_wp2_with fail
    refine (hp2.out A6 c6 w5 s6).mono ?_
    clear hp2
    rintro e w6 ⟨v8, rfl, r8, b6'⟩
    have b6 := b5.trans (b6'.mono b5.size)
    obtain ⟨A7, c7, rfl, s7, hc7⟩ := (r7.below b6').form2
    obtain ⟨A8, c8, rfl, s8, hc8⟩ := r8.form2
    clear r7 r8 s6 b6' b5
    by_cases hg : g = 0
    · subst hg
      obtain ⟨rfl, hcat⟩ := HPT.out rfl
      have HC := Lib.hid (concat2 w6.drew A8 A7 y x c8 c7 s8 s7 hc8 hc7 (by omega) w.heap.size b6.size _ rfl)
      rw [hcat] at HC
      have k1 := fun x : Ab w => (hA.below x.property).conv c
      have b7 := b6.drew.alloc b6.size (.cells #[.slice A8 y.length c8, .slice A7 x.length c7] 22)
      clear HPT HTE s7 s8 hcat hpl hpl2 htl
      go_wp2_with fail
      have hSt := Cl.of b6.drew
      have hne := ab w
      refine wp_region_tail (S := fun W => ∃ x : Ab w, W = x.val) [true, true, true, true, true, true, true, true, true, true, true, true, true, true, true, true, true, true, true, true, false, false, false, true, true, false, false, false, false] (by kernel_rfl) (by kernel_rfl) rfl (fun _ _ d _ _ h => by cases d <;> exact h) hSt ?_
      repeat (first | (with_reducible refine wpPure_skip ?_) | ((with_reducible refine wpPure_step (fun K hK => ?_)); go_simp; refine hK _ ?_; clear hK K))
      (with_reducible refine wpPure_nil ?_)
      repeat (with_reducible refine wpTail_skip ?_)
      refine wpTail_step (fun K hK => ?_) hSt
      go_simp
      refine hK _ _ ⟨Cl.of b7, ?_⟩
      clear hK K
      refine wpTail_step (fun K hK => ?_) (Cl.of b7)
      go_simp
      refine HC.out.mono ?_
      rintro e W ⟨A9, c9, rfl, s9, hc9, b9⟩
      have b8 := b6.drew.trans b9
      have k3 := s9.conv c9
      simp only
      refine hK _ _ ⟨Cl.of b8, ?_⟩
      clear hK K s9
      refine wpTail_step (fun K hK => ?_) (Cl.of b8)
      go_simp
      refine hK _ _ ⟨Cl.of b8, ?_⟩
      clear hK K
      repeat (with_reducible refine wpTail_skip ?_)
      refine wpTail_step (fun K hK => ?_) (Cl.of b8)
      go_simp
      refine hK _ _ ⟨Cl.of b8, ?_⟩
      clear hK K
      refine wpTail_step (fun K hK => ?_) (Cl.of b8)
      go_simp
      refine hK _ _ ⟨Cl.of b8, ?_⟩
      clear hK K
      refine wpTail_step (fun K hK => ?_) (Cl.of b8)
      go_simp
      refine hK _ _ ⟨Cl.of b8, ?_⟩
      clear hK K
      refine wpTail_step (fun K hK => ?_) (Cl.of b8)
      go_simp
      refine hK _ _ ⟨Cl.of b8, ?_⟩
      clear hK K
      refine wpTail_nil ?_
      clear HC k1 k3
      go_wp2
      go_ret
      exact ⟨rfl, b8⟩
    · have n1 : ((g : Int) != 0) = true := by simp; omega
      have n2 : ((g : Int) == 0) = false := by simp; omega
      have hte := HTE.out hg
      simp only [Prod.mk.injEq] at hte
      obtain ⟨rfl, rfl⟩ := hte
      clear HPT HTE s7 s8
      go_wp2
      go_quiet (fail)
      go_wp2
      go_ret
      exact ⟨rfl, drewN b6 _⟩
end Go.Proofs.Ytgicbjpeagmfcaa.VecBackL
