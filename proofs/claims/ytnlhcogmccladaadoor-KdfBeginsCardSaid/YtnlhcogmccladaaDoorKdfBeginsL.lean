/-
  The walk of ticketwardkeep.KdfBegins: it returns true and writes nothing that was there. Conditions: the tables that kdf asks for; lengths that fit.
-/
import Derived.Test.YtnlhcogmccladaaDoorKdfAlive
import Derived.Test.YtnlhcogmccladaaDoorKd
namespace Go.Proofs.YtnlhcogmccladaaDoor.KdfBeginsL
open Go.RowKit BytesW CellsW ArrW HashX MacM KdfM KdfSumW

theorem wf_i64 {n : Int} (h : (Lit.int .i64 n).wf = true) : -9223372036854775808 ≤ n ∧ n < 9223372036854775808 := by
  have hx : -9223372036854775808 ≤ n ∧ n ≤ 9223372036854775807 := by simpa [Lit.wf, IntKind.min, IntKind.max, IntKind.signed, IntKind.bits] using h
  omega

set_option maxHeartbeats 8000000 in
set_option maxRecDepth 100000 in
theorem walk (a0 : Option Addr) (l0 : List UInt8) (c0 : Nat) (a1 : Option Addr) (l1 : List UInt8) (c1 : Nat) (n k : Int) (w : World) (hA : Bs w w.heap.size a0 l0) (hc0 : l0.length ≤ c0) (hl0 : l0.length ≤ 140737488351232) (hB : Bs w w.heap.size a1 l1) (hc1 : l1.length ≤ c1) (hl1 : l1.length ≤ 140737488351232) (_ : (Lit.int .i64 n).wf = true) (_ : (Lit.int .i64 k).wf = true) (hT : Tabs w) :
    Calls Tryd.prog 5 #[.slice a0 l0.length c0, .slice a1 l1.length c1, .int .i64 n, .int .i64 k] w fun e w' => e = .returned (.bool true) ∧ Below w.heap.size w w' := by
  have HT := Lib.hid hT
  have HA := Lib.hid hA
  have HB := Lib.hid hB
  clear hT hA hB
  go_enter Tryd.func5, Tryd.ntmps5
  go_wp2_with fail
  refine (KdfAliveW.alive_any w HT.out).mono ?_
  rintro e w1 ⟨rfl, b1⟩
  have X1 := Lib.hid b1
  clear b1
  by_cases h1 : n < 0
  · have ct : decide (n < 0) = true := decide_eq_true h1
    go_wp2
    go_ret
    exact ⟨rfl, X1.out⟩
  · have ct : decide (n < 0) = false := decide_eq_false h1
    by_cases h2 : n > 300
    · have ct2 : decide (n > 300) = true := decide_eq_true h2
      go_wp2
      go_ret
      exact ⟨rfl, X1.out⟩
    · have ct2 : decide (n > 300) = false := decide_eq_false h2
      by_cases h3 : k < 0
      · have ct3 : decide (k < 0) = true := decide_eq_true h3
        go_wp2
        go_ret
        exact ⟨rfl, X1.out⟩
      · have ct3 : decide (k < 0) = false := decide_eq_false h3
        by_cases h4 : k > n
        · have ct4 : decide (k > n) = true := decide_eq_true h4
          go_wp2
          go_ret
          exact ⟨rfl, X1.out⟩
        · have ct4 : decide (k > n) = false := decide_eq_false h4
          obtain ⟨L, rfl⟩ : ∃ L : Nat, n = (L : Int) := ⟨n.toNat, by omega⟩
          obtain ⟨M, rfl⟩ : ∃ M : Nat, k = (M : Int) := ⟨k.toNat, by omega⟩
          have hML : M ≤ L := by omega
          have hL : L ≤ 300 := by omega
          have e1 : expandMX l0 l1 (L : Int) = (expandX l0 l1 L, 0) := by unfold expandMX; rw [if_neg (by omega), Int.toNat_natCast]
          have e2 : expandMX l0 l1 (M : Int) = (expandX l0 l1 M, 0) := by unfold expandMX; rw [if_neg (by omega), Int.toNat_natCast]
          have HBg := Lib.hid (expandX_begins l0 l1 M L hML)
          have h5 := kexpandX_any a0 l0 c0 a1 l1 c1 (L : Int) w1 ((HA.out.below X1.out).more X1.out.size) hc0 ((HB.out.below X1.out).more X1.out.size) hc1 hl0 hl1 (by omega) (by omega) (HT.out.below X1.out)
          rw [e1] at h5
          have HLl := Lib.hid (expandX_len l0 l1 L)
          have HMl := Lib.hid (expandX_len l0 l1 M)
          obtain ⟨EL, hEL⟩ : ∃ EL, expandX l0 l1 L = EL := ⟨_, rfl⟩
          obtain ⟨EM, hEM⟩ : ∃ EM, expandX l0 l1 M = EM := ⟨_, rfl⟩
          rw [hEL] at h5 HBg HLl
          rw [hEM] at e2 HBg HMl
          have H5 := Lib.hid h5
          have E2 := Lib.hid e2
          clear h5 e1 e2 hEL hEM h1 h2 h3 h4
          go_wp2_with fail
          refine H5.out.mono ?_
          clear H5
          rintro e w2 ⟨A2, d2, rfl, hd2, s2, b2⟩
          have X2 := Lib.hid (X1.out.trans (b2.mono X1.out.size))
          have S2 := Lib.hid s2
          have h6 := kexpandX_any a0 l0 c0 a1 l1 c1 (M : Int) w2 ((HA.out.below X2.out).more X2.out.size) hc0 ((HB.out.below X2.out).more X2.out.size) hc1 hl0 hl1 (by omega) (by omega) (HT.out.below X2.out)
          rw [E2.out] at h6
          have H6 := Lib.hid h6
          simp only [HLl.out] at hd2 ⊢
          clear h6 b2 s2
          go_wp2_with fail
          refine H6.out.mono ?_
          clear H6
          rintro e w3 ⟨A3, d3, rfl, hd3, s3, b3⟩
          have X3 := Lib.hid (X2.out.trans (b3.mono X2.out.size))
          have S23 := Lib.hid ((S2.out.below b3).more b3.size)
          have S3 := Lib.hid s3
          simp only [HMl.out] at hd3 ⊢
          clear b3 s3 S2
          go_upto_region 7 with (fail)
          have cv1 : ∀ x : Ab w3, (convert 22 9 (.slice A2 M d2)).run Tryd.prog x.val = .ok (.string ⟨EM.toArray⟩) x.val := fun x => by
            have h := ((S23.out.take M).below (Cl.below ⟨x, rfl⟩)).conv d2
            rw [List.length_take, HLl.out, Nat.min_eq_left hML, HBg.out] at h
            exact h
          have cv2 : ∀ x : Ab w3, (convert 22 9 (.slice A3 M d3)).run Tryd.prog x.val = .ok (.string ⟨EM.toArray⟩) x.val := fun x => by
            have h := (S3.out.below (Cl.below ⟨x, rfl⟩)).conv d3
            rw [HMl.out] at h
            exact h
          have iM : (M : Int) ≤ (L : Int) := by omega
          have iM2 : (M : Int) ≤ (d2 : Int) := by omega
          have hab := ab w3
          refine wp_region_tree (.read 0 (.read 1 (.read 2 (.read 3 (.read 4 (.read 5 (.read 6 (.read 7 (.read 8 (.read 9 (.read 10 (.read 11 (.read 12 (.read 13 (.read 14 (.read 15 (.read 16 (.read 17 (.read 18 (.read 19 (.read 20 (.read 21 .done)))))))))))))))))))))) (fun W => ∃ x : Ab w3, W = x.val) (by kernel_rfl) (by kernel_rfl) (by decide) (fun _ _ d _ _ h => by cases d <;> exact h) (Cl.of (Below.refl _ _).drew) ?_
          iterate 22 (refine tree_read rfl (fun K hK => ?_); go_simp; refine hK _ ?_; clear hK K)
          refine tree_done ?_
          go_wp2
          go_ret
          exact ⟨rfl, X3.out.trans ((Below.refl _ _).drew.mono X3.out.size)⟩
end Go.Proofs.YtnlhcogmccladaaDoor.KdfBeginsL
