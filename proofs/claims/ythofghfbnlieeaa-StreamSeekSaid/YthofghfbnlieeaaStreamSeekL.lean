/-
  The walk of ticketwardkeep.StreamSeek: it returns true and writes nothing that was there. Conditions: the form's own reach.
-/
import Derived.Test.YthofghfbnlieeaaStreamAlive
import Derived.Test.YthofghfbnlieeaaKd
import Derived.Test.YthofghfbnlieeaaSConcat
namespace Go.Proofs.Ythofghfbnlieeaa.StreamSeekL
open Go.RowKit BytesW CellsW ArrW ArrG StreamM StreamSumW RowsW SConcatW

theorem wf_i64 {n : Int} (h : (Lit.int .i64 n).wf = true) : -9223372036854775808 ≤ n ∧ n < 9223372036854775808 := by
  have hx : -9223372036854775808 ≤ n ∧ n ≤ 9223372036854775807 := by simpa [Lit.wf, IntKind.min, IntKind.max, IntKind.signed, IntKind.bits] using h
  omega

set_option maxHeartbeats 8000000 in
set_option maxRecDepth 100000 in
theorem walk (a0 : Option Addr) (l0 : List UInt8) (c0 : Nat) (a1 : Option Addr) (l1 : List UInt8) (c1 : Nat) (n : Int) (a3 : Option Addr) (l3 : List UInt8) (c3 : Nat) (k : Int) (w : World) (hA : Bs w w.heap.size a0 l0) (hc0 : l0.length ≤ c0) (hl0 : l0.length ≤ 140737488351232) (hB : Bs w w.heap.size a1 l1) (hc1 : l1.length ≤ c1) (hl1 : l1.length ≤ 140737488351232) (hwf : (Lit.int .i64 n).wf = true) (hC : Bs w w.heap.size a3 l3) (hc3 : l3.length ≤ c3) (hl3 : l3.length ≤ 140737488351232) (_ : (Lit.int .i64 k).wf = true) :
    Calls Try.prog 5 #[.slice a0 l0.length c0, .slice a1 l1.length c1, .int .i64 n, .slice a3 l3.length c3, .int .i64 k] w fun e w' => e = .returned (.bool true) ∧ Below w.heap.size w w' := by
  obtain ⟨hn1, hn2⟩ := wf_i64 hwf
  have HA := Lib.hid hA
  have HB := Lib.hid hB
  have HC := Lib.hid hC
  clear hA hB hC hwf
  go_enter Try.func5, Try.ntmps5
  go_wp2_with fail
  refine (StreamAliveW.alive_any w).mono ?_
  rintro e w1 ⟨rfl, b1⟩
  have X1 := Lib.hid b1
  clear b1
  have h5 := smix_any a0 l0 c0 a1 l1 c1 n a3 l3 c3 w1 ((HA.out.below X1.out).more X1.out.size) hc0 ((HB.out.below X1.out).more X1.out.size) hc1 ((HC.out.below X1.out).more X1.out.size) hc3 hl0 hl1 hl3 hn1 hn2
  obtain ⟨xs, er, hx⟩ : ∃ bs er, mixM l0 l1 n l3 = (bs, er) := ⟨_, _, rfl⟩
  rw [hx] at h5
  have H5 := Lib.hid h5
  unfold mixM at hx
  have HX := Lib.hid hx
  clear h5 hx
  go_wp2_with fail
  refine H5.out.mono ?_
  clear H5
  rintro e w2 ⟨A11, d11, rfl, hd11, s11, b2⟩
  have X2 := Lib.hid (X1.out.trans (b2.mono X1.out.size))
  have S11 := Lib.hid s11
  simp only at hd11 S11 ⊢
  clear b2 s11
  by_cases h1 : l0.length ≠ 32 ∨ l1.length ≠ 12
  · have hx := HX.out
    rw [if_pos h1] at hx
    cases hx
    clear h1
    go_wp2
    go_ret
    exact ⟨rfl, X2.out⟩
  · by_cases h2 : n < 0 ∨ 4294967296 ≤ n ∨ 16384 < l3.length ∨ 64 * (4294967296 - n) < (l3.length : Int)
    · have hx := HX.out
      rw [if_neg h1, if_pos h2] at hx
      cases hx
      clear h1 h2
      go_wp2
      go_ret
      exact ⟨rfl, X2.out⟩
    · have hx := HX.out
      rw [if_neg h1, if_neg h2] at hx
      obtain ⟨hxs, rfl⟩ : mix l0 l1 n l3 = xs ∧ er = 0 := by cases hx; exact ⟨rfl, rfl⟩
      have HXs := Lib.hid hxs
      have HXl := Lib.hid (show xs.length = l3.length by rw [← hxs, mix_len])
      have H1 := Lib.hid h1
      have hn0 : 0 ≤ n := by omega
      have hnm : n < 4294967296 := by omega
      have hl16 : l3.length ≤ 16384 := by omega
      have hlm : (l3.length : Int) ≤ 64 * (4294967296 - n) := by omega
      rw [HXl.out] at hd11 ⊢
      clear hx hxs HX h1 h2
      by_cases h3 : k < 0
      · have t1 : decide (k < 0) = true := decide_eq_true h3
        go_wp2
        go_ret
        exact ⟨rfl, X2.out⟩
      · have t1 : decide (k < 0) = false := decide_eq_false h3
        obtain ⟨q, hq⟩ : ∃ q, l3.length / 64 = q := ⟨_, rfl⟩
        have g1 : (l3.length : Int).tdiv 64 = (q : Int) := by rw [Int.tdiv_eq_ediv_of_nonneg (by omega)]; omega
        have g2 : (l3.length : Int) / 64 = (q : Int) := by omega
        have Hq := Lib.hid hq
        clear hq
        by_cases h4 : k > (q : Int)
        · have t2 : decide (k > (q : Int)) = true := decide_eq_true h4
          go_wp2
          go_ret
          exact ⟨rfl, X2.out⟩
        · have t2 : decide (k > (q : Int)) = false := decide_eq_false h4
          obtain ⟨m, rfl⟩ : ∃ m : Nat, k = (m : Int) := ⟨k.toNat, by omega⟩
          have t2n : decide (q < m) = false := decide_eq_false (by omega)
          obtain ⟨p, hp⟩ : ∃ p, 64 * m = p := ⟨_, rfl⟩
          have hpl : p ≤ l3.length := by have := Hq.out; omega
          have wp : IntKind.i64.wrap (64 * (m : Int)) = (p : Int) := by rw [IntWalk.i64_in _ (by omega)]; omega
          have wnk : IntKind.i64.wrap (n + (m : Int)) = n + (m : Int) := IntWalk.i64_in _ (by omega)
          have ip : (p : Int) ≤ (c3 : Int) := by omega
          have ipl : (p : Int) ≤ (l3.length : Int) := by omega
          have HTl := Lib.hid (show (l3.take p).length = p by rw [List.length_take]; omega)
          have HPp := Lib.hid hp
          have h6 := smix_any a0 l0 c0 a1 l1 c1 n a3 (l3.take p) c3 w2 ((HA.out.below X2.out).more X2.out.size) hc0 ((HB.out.below X2.out).more X2.out.size) hc1 (((HC.out.below X2.out).more X2.out.size).take p) (by rw [HTl.out]; omega) hl0 hl1 (by rw [HTl.out]; omega) hn1 hn2
          obtain ⟨Y, hY⟩ : ∃ Y, mix l0 l1 n (l3.take p) = Y := ⟨_, rfl⟩
          rw [show mixM l0 l1 n (l3.take p) = (Y, 0) by unfold mixM; rw [if_neg H1.out, if_neg (by rw [HTl.out]; omega), hY], HTl.out] at h6
          have H6 := Lib.hid h6
          have HY := Lib.hid hY
          have HYl := Lib.hid (show Y.length = p by rw [← hY, mix_len]; exact HTl.out)
          clear h6 hY hp h3 h4
          go_wp2_with fail
          refine H6.out.mono ?_
          clear H6
          rintro e w3 ⟨A13, d13, rfl, hd13, s13, b3⟩
          have X3 := Lib.hid (X2.out.trans (b3.mono X2.out.size))
          have S113 := Lib.hid ((S11.out.below b3).more b3.size)
          have S13 := Lib.hid s13
          simp only [HYl.out] at hd13 S13 ⊢
          clear b3 s13 g1 g2 t1 t2 t2n
          by_cases h5 : n + (m : Int) ≥ 4294967296
          · have t3 : decide (n + (m : Int) ≥ 4294967296) = true := decide_eq_true h5
            have hpe : l3.length = p := by have := HPp.out; omega
            have hxy : xs = Y := by rw [← HXs.out, ← HY.out, ← hpe, List.take_length]
            have t4 : ((l3.length : Int) == (p : Int)) = true := by rw [beq_iff_eq]; omega
            have cv1 : (convert 22 9 (.slice A11 l3.length d11)).run Try.prog w3 = .ok (.string ⟨Y.toArray⟩) w3 := by
              have h := S113.out.conv d11
              rw [HXl.out, hxy] at h
              exact h
            have cv2 : (convert 22 9 (.slice A13 p d13)).run Try.prog w3 = .ok (.string ⟨Y.toArray⟩) w3 := by
              have h := S13.out.conv d13
              rw [HYl.out] at h
              exact h
            clear hxy hpe h5
            go_wp2
            go_ret
            exact ⟨rfl, X3.out⟩
          · have t3 : decide (n + (m : Int) ≥ 4294967296) = false := decide_eq_false h5
            have HDl := Lib.hid (show (l3.drop p).length = l3.length - p from List.length_drop)
            obtain ⟨A3p, hA3⟩ : ∃ A, (if c3 = p then a3 else a3.map (·.add p)) = A := ⟨_, rfl⟩
            have hcut := ((HC.out.below X3.out).more X3.out.size).cut p c3 hc3
            rw [hA3] at hcut
            have h6 := smix_any a0 l0 c0 a1 l1 c1 (n + (m : Int)) A3p (l3.drop p) (c3 - p) w3 ((HA.out.below X3.out).more X3.out.size) hc0 ((HB.out.below X3.out).more X3.out.size) hc1 hcut (by rw [HDl.out]; omega) hl0 hl1 (by rw [HDl.out]; omega) (by omega) (by omega)
            obtain ⟨Z, hZ⟩ : ∃ Z, mix l0 l1 (n + (m : Int)) (l3.drop p) = Z := ⟨_, rfl⟩
            rw [show mixM l0 l1 (n + (m : Int)) (l3.drop p) = (Z, 0) by unfold mixM; rw [if_neg H1.out, if_neg (by rw [HDl.out]; have := HPp.out; omega), hZ], HDl.out] at h6
            have H6 := Lib.hid h6
            have HZl := Lib.hid (show Z.length = l3.length - p by rw [← hZ, mix_len]; exact HDl.out)
            have HYZ := Lib.hid (show Y ++ Z = xs by rw [← HY.out, ← hZ, ← HXs.out, ← HPp.out]; exact mix_parts l0 l1 n l3 m)
            clear h6 hZ hcut h5
            go_wp2_with fail
            refine H6.out.mono ?_
            clear H6
            rintro e w4 ⟨A15, d15, rfl, hd15, s15, b4⟩
            have X4 := Lib.hid (X3.out.trans (b4.mono X3.out.size))
            have S114 := Lib.hid ((S113.out.below b4).more b4.size)
            have S134 := Lib.hid ((S13.out.below b4).more b4.size)
            have S15 := Lib.hid s15
            simp only [HZl.out] at hd15 S15 ⊢
            clear b4 s15 hA3
            go_upto_region 10 with (fail)
            have hab := ab w4
            have x0 := (Below.refl w4.heap.size w4).drew
            obtain ⟨V0, hV0⟩ : ∃ x, w4.drew = x := ⟨_, rfl⟩
            have C1 : ∀ x : Ab w4, (convert 22 9 (.slice A11 l3.length d11)).run Try.prog x.val = .ok (.string ⟨xs.toArray⟩) x.val := fun x => by
              have h := (S114.out.below (Cl.below ⟨x, rfl⟩ : Below w4.heap.size w4 x.val)).conv d11
              rw [HXl.out] at h
              exact h
            refine wp_region_tree (.read 0 (.read 1 (.read 2 (.read 3 (.read 4 (.read 5 (.read 6 (.read 7 (.read 8 (.read 9 (.read 10 (.step 11 (.step 12 (.step 13 (.read 14 (.read 15 (.read 16 .done))))))))))))))))) (fun W => ∃ x : Ab w4, W = x.val) (by kernel_rfl) (by kernel_rfl) (by decide) (fun _ _ d _ _ h => by cases d <;> exact h) (Cl.of (Below.refl _ _).drew) ?_
            rw [hV0] at x0 ⊢
            clear hV0
            iterate 11 (refine tree_read rfl (fun K hK => ?_); go_simp; refine hK _ ?_; clear hK K)
            have hms := Ms.laid2 V0 A13 A15 Y Z p (l3.length - p) d13 d15 HYl.out.symm HZl.out.symm ((S134.out.below x0).more x0.size) ((S15.out.below x0).more x0.size) hd13 hd15 (0, 0) (V0.heap.size + 1) (Nat.lt_succ_self _)
            have b5 := (Below.refl V0.heap.size V0).alloc (Nat.le_refl _) (.cells #[.slice A13 p d13, .slice A15 (l3.length - p) d15] 22)
            obtain ⟨V1, hV1⟩ : ∃ V1, V0.alloc (.cells #[.slice A13 p d13, .slice A15 (l3.length - p) d15] 22) = V1 := ⟨_, rfl⟩
            have hz1 : V1.heap.size = V0.heap.size + 1 := by rw [← hV1]; simp
            rw [hV1] at hms b5
            rw [← hz1] at hms
            have x1 := x0.trans (b5.mono x0.size)
            refine tree_step rfl (Cl.of x0) (fun K hK => ?_)
            go_simp
            refine hK _ _ ⟨Cl.of x1, ?_⟩
            clear hK K hV1 C1
            have hco := concat_any (some ⟨V0.heap.size, 0, none⟩) [Y, Z] 2 V1 hms (by simp [tot]; rw [HYl.out, HZl.out]; omega) (by simp)
            rw [show ([Y, Z] : List (List UInt8)).flatten = xs by simp; exact HYZ.out] at hco
            have HCo := Lib.hid hco
            clear hco hms
            refine tree_step rfl (Cl.of x1) (fun K hK => ?_)
            go_simp
            refine HCo.out.mono ?_
            clear HCo
            rintro e V2 ⟨v2, rfl, r2, b6⟩
            have x2 := x1.trans (b6.mono x1.size)
            obtain ⟨A2, d2, rfl, s2, -⟩ := r2.form2
            refine hK _ _ ⟨Cl.of x2, ?_⟩
            clear hK K
            have cv := s2.conv d2
            refine tree_step rfl (Cl.of x2) (fun K hK => ?_)
            go_simp
            refine hK _ _ ⟨Cl.of x2, ?_⟩
            clear hK K cv
            iterate 3 (refine tree_read rfl (fun K hK => ?_); go_simp; refine hK _ ?_; clear hK K)
            refine tree_done ?_
            have X5 := Lib.hid (X4.out.trans (x2.mono X4.out.size))
            clear x0 x1 x2 r2 s2 b5 b6 hab
            go_wp2
            go_ret
            exact ⟨rfl, X5.out⟩
end Go.Proofs.Ythofghfbnlieeaa.StreamSeekL
