/-
  The walk of ticketwardlaw.StreamMixes: it returns true and writes nothing that was there. Conditions: the form's own reach.
-/
import Derived.Test.YthofghfbnlieeaaStreamSum
import Derived.Test.YthofghfbnlieeaaStreamMix
import Derived.Test.YthofghfbnlieeaaKd
namespace Go.Proofs.Ythofghfbnlieeaa.StreamMixesL
open Go.RowKit BytesW ArrW ArrG StreamM StreamSumW StreamBlockW StreamMixW

theorem wf_i64 {n : Int} (h : (Lit.int .i64 n).wf = true) : -9223372036854775808 ≤ n ∧ n < 9223372036854775808 := by
  have hx : -9223372036854775808 ≤ n ∧ n ≤ 9223372036854775807 := by simpa [Lit.wf, IntKind.min, IntKind.max, IntKind.signed, IntKind.bits] using h
  omega

set_option maxHeartbeats 8000000 in
set_option maxRecDepth 100000 in
theorem walk (a0 : Option Addr) (l0 : List UInt8) (c0 : Nat) (a1 : Option Addr) (l1 : List UInt8) (c1 : Nat) (n : Int) (a3 : Option Addr) (l3 : List UInt8) (c3 : Nat) (w : World) (hA : Bs w w.heap.size a0 l0) (hc0 : l0.length ≤ c0) (hl0 : l0.length ≤ 140737488351232) (hB : Bs w w.heap.size a1 l1) (hc1 : l1.length ≤ c1) (hl1 : l1.length ≤ 140737488351232) (hwf : (Lit.int .i64 n).wf = true) (hC : Bs w w.heap.size a3 l3) (hc3 : l3.length ≤ c3) (hl3 : l3.length ≤ 140737488351232) :
    Calls Try.prog 3 #[.slice a0 l0.length c0, .slice a1 l1.length c1, .int .i64 n, .slice a3 l3.length c3] w fun e w' => e = .returned (.bool true) ∧ Below w.heap.size w w' := by
  obtain ⟨hn1, hn2⟩ := wf_i64 hwf
  have HA := Lib.hid hA
  have HB := Lib.hid hB
  have HC := Lib.hid hC
  have h4 := sblock_any a0 l0 c0 a1 l1 c1 n w hA hc0 hB hc1 hl0 hl1 hn1 hn2
  obtain ⟨bk, e1, hbk⟩ : ∃ bk e1, blockM l0 l1 n = (bk, e1) := ⟨_, _, rfl⟩
  rw [hbk] at h4
  have H4 := Lib.hid h4
  unfold blockM at hbk
  have HBk := Lib.hid hbk
  clear hA hB hC hwf h4 hbk
  go_enter Try.func3, Try.ntmps3
  go_wp2_with fail
  refine H4.out.mono ?_
  clear H4
  rintro e w1 ⟨A1, d1, rfl, hd1, s1, b1⟩
  have X1 := Lib.hid b1
  have S1 := Lib.hid s1
  simp only at hd1 S1 ⊢
  clear b1 s1
  have h5 := smix_any a0 l0 c0 a1 l1 c1 n a3 l3 c3 w1 ((HA.out.below X1.out).more X1.out.size) hc0 ((HB.out.below X1.out).more X1.out.size) hc1 ((HC.out.below X1.out).more X1.out.size) hc3 hl0 hl1 hl3 hn1 hn2
  obtain ⟨bs, er, hbe⟩ : ∃ bs er, mixM l0 l1 n l3 = (bs, er) := ⟨_, _, rfl⟩
  rw [hbe] at h5
  have H5 := Lib.hid h5
  unfold mixM at hbe
  have HBe := Lib.hid hbe
  clear h5 hbe
  go_wp2_with fail
  refine H5.out.mono ?_
  clear H5
  rintro e w2 ⟨A2, d2, rfl, hd2, s2, b2⟩
  have X2 := Lib.hid (X1.out.trans (b2.mono X1.out.size))
  have S2 := Lib.hid s2
  have S12 := Lib.hid ((S1.out.below b2).more b2.size)
  simp only at hd2 S2 ⊢
  clear b2 s2
  by_cases h1 : l0.length ≠ 32 ∨ l1.length ≠ 12
  · have hbe := HBe.out
    have hbk := HBk.out
    rw [if_pos h1] at hbe hbk
    cases hbe
    cases hbk
    by_cases h32 : l0.length = 32
    · have t1 : ((l0.length : Int) != 32) = false := by simp; omega
      have t2 : ((l1.length : Int) != 12) = true := by simp; omega
      clear h1 h32
      go_wp2
      go_ret
      exact ⟨rfl, X2.out⟩
    · have t1 : ((l0.length : Int) != 32) = true := by simp; omega
      clear h1 h32
      go_wp2
      go_ret
      exact ⟨rfl, X2.out⟩
  · have t1 : ((l0.length : Int) != 32) = false := by simp; omega
    have t2 : ((l1.length : Int) != 12) = false := by simp; omega
    have H32 := Lib.hid (show l0.length = 32 by omega)
    have H12 := Lib.hid (show l1.length = 12 by omega)
    have hbe := HBe.out
    have hbk := HBk.out
    rw [if_neg h1] at hbe hbk
    clear h1
    by_cases h2 : n < 0
    · have t3 : decide (n < 0) = true := decide_eq_true h2
      rw [if_pos (.inl h2)] at hbe hbk
      cases hbe
      cases hbk
      clear h2
      go_wp2
      go_ret
      exact ⟨rfl, X2.out⟩
    · have t3 : decide (n < 0) = false := decide_eq_false h2
      by_cases h3 : 4294967296 ≤ n
      · have t4 : decide (n ≥ 4294967296) = true := decide_eq_true h3
        rw [if_pos (.inr (.inl h3))] at hbe
        rw [if_pos (.inr h3)] at hbk
        cases hbe
        cases hbk
        clear h2 h3
        go_wp2
        go_ret
        exact ⟨rfl, X2.out⟩
      · have t4 : decide (n ≥ 4294967296) = false := decide_eq_false h3
        rw [if_neg (by omega)] at hbk
        obtain ⟨hbb, rfl⟩ : block l0 l1 n = bk ∧ e1 = 0 := by cases hbk; exact ⟨rfl, rfl⟩
        have HBb := Lib.hid hbb
        have HBe' := Lib.hid hbe
        have hn0 : 0 ≤ n := by omega
        have hnm : n < 4294967296 := by omega
        clear hbk hbb hbe HBe HBk h2 h3
        go_upto_region 7 with (fail)
        have hab := ab w2
        have x0 := (Below.refl w2.heap.size w2).drew
        obtain ⟨V0, hV0⟩ : ∃ x, w2.drew = x := ⟨_, rfl⟩
        have C1 : ∀ x : Ab w2, (convert 22 9 (.slice A1 bk.length d1)).run Try.prog x.val = .ok (.string ⟨bk.toArray⟩) x.val := fun x => (S12.out.below (Cl.below ⟨x, rfl⟩)).conv d1
        refine wp_region_tree (.read 0 (.read 1 (.read 2 (.read 3 (.read 4 (.read 5 (.read 6 (.read 7 (.step 8 (.step 9 (.read 10 (.read 11 .done)))))))))))) (fun W => ∃ x : Ab w2, W = x.val) (by kernel_rfl) (by kernel_rfl) (by decide) (fun _ _ d _ _ h => by cases d <;> exact h) (Cl.of (Below.refl _ _).drew) ?_
        rw [hV0] at x0 ⊢
        clear hV0
        iterate 8 (refine tree_read rfl (fun K hK => ?_); go_simp; refine hK _ ?_; clear hK K)
        have hbl := hblock_any a0 l0 c0 a1 l1 c1 n V0 ((HA.out.below (X2.out.trans (x0.mono X2.out.size))).more (X2.out.trans (x0.mono X2.out.size)).size) H32.out ((HB.out.below (X2.out.trans (x0.mono X2.out.size))).more (X2.out.trans (x0.mono X2.out.size)).size) H12.out
        rw [HBb.out] at hbl
        have HBl := Lib.hid hbl
        clear hbl C1
        refine tree_step rfl (Cl.of x0) (fun K hK => ?_)
        go_simp
        refine HBl.out.mono ?_
        clear HBl
        rintro e V1 ⟨v8, rfl, r8, b8⟩
        have x1 := x0.trans (b8.mono x0.size)
        obtain ⟨A8, d8, rfl, s8, -⟩ := r8.form2
        refine hK _ _ ⟨Cl.of x1, ?_⟩
        clear hK K
        have cv := s8.conv d8
        refine tree_step rfl (Cl.of x1) (fun K hK => ?_)
        go_simp
        refine hK _ _ ⟨Cl.of x1, ?_⟩
        clear hK K cv
        iterate 2 (refine tree_read rfl (fun K hK => ?_); go_simp; refine hK _ ?_; clear hK K)
        refine tree_done ?_
        have X3 := Lib.hid (X2.out.trans (x1.mono X2.out.size))
        have S3 := Lib.hid ((S2.out.below x1).more x1.size)
        clear x0 x1 r8 s8 b8 hab
        have wsub : IntKind.i64.wrap (4294967296 - n) = 4294967296 - n := IntWalk.i64_in _ (by omega)
        have wmul : IntKind.i64.wrap (64 * (4294967296 - n)) = 64 * (4294967296 - n) := IntWalk.i64_in _ (by omega)
        by_cases h4 : 16384 < l3.length
        · have t5 : decide ((l3.length : Int) > 16384) = true := decide_eq_true (by omega)
          have hbe := HBe'.out
          rw [if_pos (.inr (.inr (.inl h4)))] at hbe
          cases hbe
          clear h4
          go_wp2
          go_ret
          exact ⟨rfl, X3.out⟩
        · have t5 : decide ((l3.length : Int) > 16384) = false := decide_eq_false (by omega)
          by_cases h5 : 64 * (4294967296 - n) < (l3.length : Int)
          · have t6 : decide ((l3.length : Int) > 64 * (4294967296 - n)) = true := decide_eq_true h5
            have hbe := HBe'.out
            rw [if_pos (.inr (.inr (.inr h5)))] at hbe
            cases hbe
            clear h4 h5
            go_wp2
            go_ret
            exact ⟨rfl, X3.out⟩
          · have t6 : decide ((l3.length : Int) > 64 * (4294967296 - n)) = false := decide_eq_false h5
            have hbe := HBe'.out
            rw [if_neg (by omega)] at hbe
            obtain ⟨hbs, rfl⟩ : mix l0 l1 n l3 = bs ∧ er = 0 := by cases hbe; exact ⟨rfl, rfl⟩
            have HBs := Lib.hid hbs
            have hl3s : l3.length ≤ 1048576 := by omega
            clear hbe hbs h4 h5
            go_upto_region 11 with (fail)
            have hab := ab V1
            have x0 := (Below.refl V1.heap.size V1).drew
            obtain ⟨V0', hV0⟩ : ∃ x, V1.drew = x := ⟨_, rfl⟩
            have C1 : ∀ x : Ab V1, (convert 22 9 (.slice A2 bs.length d2)).run Try.prog x.val = .ok (.string ⟨bs.toArray⟩) x.val := fun x => (S3.out.below (Cl.below ⟨x, rfl⟩)).conv d2
            refine wp_region_tree (.read 0 (.read 1 (.read 2 (.read 3 (.read 4 (.read 5 (.read 6 (.read 7 (.read 8 (.step 9 (.step 10 (.read 11 (.read 12 (.read 13 .done)))))))))))))) (fun W => ∃ x : Ab V1, W = x.val) (by kernel_rfl) (by kernel_rfl) (by decide) (fun _ _ d _ _ h => by cases d <;> exact h) (Cl.of (Below.refl _ _).drew) ?_
            rw [hV0] at x0 ⊢
            clear hV0
            iterate 9 (refine tree_read rfl (fun K hK => ?_); go_simp; refine hK _ ?_; clear hK K)
            have y0 := X3.out.trans (x0.mono X3.out.size)
            have hbl := hmix_any a0 l0 c0 a1 l1 c1 n a3 l3 c3 V0' ((HA.out.below y0).more y0.size) H32.out ((HB.out.below y0).more y0.size) H12.out ((HC.out.below y0).more y0.size) hl3s (by omega) (by omega)
            rw [HBs.out] at hbl
            have HBl := Lib.hid hbl
            clear hbl C1 y0
            refine tree_step rfl (Cl.of x0) (fun K hK => ?_)
            go_simp
            refine HBl.out.mono ?_
            clear HBl
            rintro e V2 ⟨v9, rfl, r9, b9⟩
            have x1 := x0.trans (b9.mono x0.size)
            obtain ⟨A9, d9, rfl, s9, -⟩ := r9.form2
            refine hK _ _ ⟨Cl.of x1, ?_⟩
            clear hK K
            have cv := s9.conv d9
            refine tree_step rfl (Cl.of x1) (fun K hK => ?_)
            go_simp
            refine hK _ _ ⟨Cl.of x1, ?_⟩
            clear hK K cv
            iterate 3 (refine tree_read rfl (fun K hK => ?_); go_simp; refine hK _ ?_; clear hK K)
            refine tree_done ?_
            have X4 := Lib.hid (X3.out.trans (x1.mono X3.out.size))
            clear x0 x1 r9 s9 b9 hab
            go_wp2
            go_ret
            exact ⟨rfl, X4.out⟩
end Go.Proofs.Ythofghfbnlieeaa.StreamMixesL
