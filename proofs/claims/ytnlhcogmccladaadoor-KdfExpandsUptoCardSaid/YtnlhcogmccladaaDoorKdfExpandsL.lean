/-
  The walk of ticketwardlaw.KdfExpands: it returns true and writes nothing that was there. Conditions: the tables; bulk at most 1048576.
-/
import Derived.Test.YtnlhcogmccladaaDoorKdfSum
import Derived.Test.YtnlhcogmccladaaDoorKdfRef
import Derived.Test.YtnlhcogmccladaaDoorHashD
import Derived.Test.YtnlhcogmccladaaDoorKd
namespace Go.Proofs.YtnlhcogmccladaaDoor.KdfExpandsL
open Go.RowKit BytesW CellsW WordsW ArrW HashX HashCompW HashSumW HashSameW HashFinW HashBlockW HashRefW MacM KdfM KdfRefW KdfSumW

theorem wf_i64 {n : Int} (h : (Lit.int .i64 n).wf = true) : -9223372036854775808 ≤ n ∧ n < 9223372036854775808 := by
  have hx : -9223372036854775808 ≤ n ∧ n ≤ 9223372036854775807 := by simpa [Lit.wf, IntKind.min, IntKind.max, IntKind.signed, IntKind.bits] using h
  omega
theorem extract_len (k b : List UInt8) : (extract k b).length = 32 := hmac_len _ _

set_option maxHeartbeats 8000000 in
set_option maxRecDepth 100000 in
theorem walk (a0 : Option Addr) (l0 : List UInt8) (c0 : Nat) (a1 : Option Addr) (l1 : List UInt8) (c1 : Nat) (n : Int) (w : World) (hA : Bs w w.heap.size a0 l0) (hc0 : l0.length ≤ c0) (hl0 : l0.length ≤ 1048576) (hB : Bs w w.heap.size a1 l1) (hc1 : l1.length ≤ c1) (hl1 : l1.length ≤ 1048576) (hwf : (Lit.int .i64 n).wf = true) (hT0 : TabK w ∧ TabI w ∧ TabR w) :
    Calls Tryd.prog 3 #[.slice a0 l0.length c0, .slice a1 l1.length c1, .int .i64 n] w fun e w' => e = .returned (.bool true) ∧ Below w.heap.size w w' := by
  have hT : Tabs w ∧ TabI w ∧ TabK w := ⟨hT0.2.2, hT0.2.1, hT0.1⟩
  clear hT0
  obtain ⟨hn1, hn2⟩ := wf_i64 hwf
  have HT := Lib.hid hT.1
  have HI := Lib.hid hT.2.1
  have HK := Lib.hid hT.2.2
  have HA := Lib.hid hA
  have HB := Lib.hid hB
  have h5 := kexpand_any a0 l0 c0 a1 l1 c1 n w hA hc0 hB hc1 (Nat.le_trans hl0 (by decide)) hl1 hn1 hn2 hT.1
  obtain ⟨bs, er, hbe⟩ : ∃ bs er, expandM l0 l1 n = (bs, er) := ⟨_, _, rfl⟩
  rw [hbe] at h5
  have HBe := Lib.hid hbe
  have H5 := Lib.hid h5
  obtain ⟨D, hD⟩ : ∃ D, extract l0 l1 = D := ⟨_, rfl⟩
  have HDl := Lib.hid (show D.length = 32 by rw [← hD]; exact extract_len _ _)
  have HEx := Lib.hid (fun (V : World) (hV : Below w.heap.size w V) => kextract_any a0 l0 c0 a1 l1 c1 V ((hA.below hV).more hV.size) hc0 ((hB.below hV).more hV.size) hc1 (by omega) (by omega) (hT.1.below hV))
  have HGx := Lib.hid (fun (V : World) (hV : Below w.heap.size w V) => gextract_any a0 l0 c0 a1 l1 c1 V ((hA.below hV).more hV.size) (by omega) ((hB.below hV).more hV.size) (by omega) (hT.2.1.below hV) (hT.2.2.below hV))
  rw [hD] at HEx HGx
  clear hT hA hB hD h5 hbe hwf
  go_enter Tryd.func3, Tryd.ntmps3
  go_wp2_with fail
  refine H5.out.mono ?_
  clear H5
  rintro e w2 ⟨A2, d2, rfl, hd2, s2, b2⟩
  have X2 := Lib.hid b2
  have S2 := Lib.hid s2
  simp only at hd2 ⊢
  clear b2 s2
  go_wp2_with fail
  refine (HEx.out w2 X2.out).mono ?_
  clear HEx
  rintro e w3 ⟨rfl, b3⟩
  have X3 := Lib.hid (X2.out.trans (b3.mono X2.out.size))
  have S3 := Lib.hid ((S2.out.below b3).more b3.size)
  clear b3 S2
  go_wp2_with fail
  refine (HGx.out w3 X3.out).mono ?_
  clear HGx
  rintro e w4 ⟨rfl, b4⟩
  have X4 := Lib.hid (X3.out.trans (b4.mono X3.out.size))
  have S4 := Lib.hid ((S3.out.below b4).more b4.size)
  have heq := eql_dig D HDl.out w4
  clear b4 S3
  by_cases hr : n < 0 ∨ 8160 < n
  · have hbe := HBe.out
    unfold expandM at hbe
    rw [if_pos hr] at hbe
    cases hbe
    rcases (show n < 0 ∨ ¬ n < 0 ∧ n > 8160 by omega) with h | ⟨h, h'⟩
    · have ct : decide (n < 0) = true := decide_eq_true h
      go_wp2
      go_ret
      exact ⟨rfl, X4.out⟩
    · have ct : decide (n < 0) = false := decide_eq_false h
      have ct2 : decide (n > 8160) = true := decide_eq_true h'
      go_wp2
      go_ret
      exact ⟨rfl, X4.out⟩
  · have hbe := HBe.out
    unfold expandM at hbe
    rw [if_neg hr] at hbe
    obtain ⟨L, rfl⟩ : ∃ L : Nat, n = (L : Int) := ⟨n.toNat, by omega⟩
    rw [Int.toNat_natCast] at hbe
    obtain ⟨hbs, rfl⟩ : expand l0 l1 L = bs ∧ er = 0 := by cases hbe; exact ⟨rfl, rfl⟩
    have HBs := Lib.hid hbs
    have HLl := Lib.hid (show bs.length = L by rw [← hbs]; exact expand_len l0 l1 L)
    have ct : decide ((L : Int) < 0) = false := decide_eq_false (by omega)
    have ct2 : decide ((L : Int) > 8160) = false := decide_eq_false (by omega)
    have hL8 : L ≤ 8160 := by omega
    rw [HLl.out] at hd2 ⊢
    clear hbe hbs hr HBe
    by_cases h200 : (L : Int) > 200
    · have ct3 : decide ((L : Int) > 200) = true := decide_eq_true h200
      go_upto_region 7 with (fail)
      have HG := Lib.hid (fun (V : World) (hV : Below w.heap.size w V) => gexpand_any a0 l0 c0 a1 l1 c1 99 V (by omega) hl1 (by omega) ((HA.out.below hV).more hV.size) ((HB.out.below hV).more hV.size) (HI.out.below hV) (HK.out.below hV))
      obtain ⟨E9, hE9⟩ : ∃ E9, expand l0 l1 99 = E9 := ⟨_, rfl⟩
      have HE9 := Lib.hid (show E9.length = 99 by rw [← hE9]; exact expand_len l0 l1 99)
      have H99 := Lib.hid (show bs.take 99 = E9 by rw [← hE9, ← HBs.out]; exact expand_begins l0 l1 99 L (by omega))
      rw [hE9] at HG
      clear hE9
      have cv1 : ∀ x : Ab w4, (convert 22 9 (.slice A2 99 d2)).run Tryd.prog x.val = .ok (.string ⟨E9.toArray⟩) x.val := fun x => by
        have h := ((S4.out.take 99).below (Cl.below ⟨x, rfl⟩)).conv d2
        rw [List.length_take, HLl.out, Nat.min_eq_left (by omega), H99.out] at h
        exact h
      have i1 : (99 : Int) ≤ (L : Int) := by omega
      have i2 : (99 : Int) ≤ (d2 : Int) := by omega
      have hab := ab w4
      have x0 := (Below.refl w4.heap.size w4).drew
      obtain ⟨V0, hV0⟩ : ∃ x, w4.drew = x := ⟨_, rfl⟩
      clear heq
      refine wp_region_tree (.read 0 (.read 1 (.read 2 (.read 3 (.read 4 (.read 5 (.read 6 (.read 7 (.read 8 (.read 9 (.read 10 (.read 11 (.read 12 (.read 13 (.step 14 (.step 15 (.read 16 (.read 17 (.read 18 .done))))))))))))))))))) (fun W => ∃ x : Ab w4, W = x.val) (by kernel_rfl) (by kernel_rfl) (by decide) (fun _ _ d _ _ h => by cases d <;> exact h) (Cl.of (Below.refl _ _).drew) ?_
      rw [hV0] at x0 ⊢
      clear hV0
      have hg := HG.out V0 (X4.out.trans (x0.mono X4.out.size))
      have HGo := Lib.hid hg
      clear hg
      iterate 14 (refine tree_read rfl (fun K hK => ?_); go_simp; refine hK _ ?_; clear hK K)
      refine tree_step rfl (Cl.of x0) (fun K hK => ?_)
      go_simp
      refine HGo.out.mono ?_
      clear HGo
      rintro e V1 ⟨A6, d6, rfl, hd6, s6, b6⟩
      have x1 := x0.trans (b6.mono x0.size)
      refine hK _ _ ⟨Cl.of x1, ?_⟩
      clear hK K b6
      have cv2 : (convert 22 9 (.slice A6 99 d6)).run Tryd.prog V1 = .ok (.string ⟨E9.toArray⟩) V1 := by
        have h := s6.conv d6
        rw [HE9.out] at h
        exact h
      refine tree_step rfl (Cl.of x1) (fun K hK => ?_)
      go_simp
      refine hK _ _ ⟨Cl.of x1, ?_⟩
      clear hK K cv2 s6
      iterate 3 (refine tree_read rfl (fun K hK => ?_); go_simp; refine hK _ ?_; clear hK K)
      refine tree_done ?_
      go_wp2
      go_ret
      exact ⟨rfl, X4.out.trans (x1.mono X4.out.size)⟩
    · have ct3 : decide ((L : Int) > 200) = false := decide_eq_false h200
      go_upto_region 8 with (fail)
      have HG := Lib.hid (fun (V : World) (hV : Below w.heap.size w V) => gexpand_any a0 l0 c0 a1 l1 c1 L V (by omega) hl1 (by omega) ((HA.out.below hV).more hV.size) ((HB.out.below hV).more hV.size) (HI.out.below hV) (HK.out.below hV))
      rw [HBs.out] at HG
      have cv1 : ∀ x : Ab w4, (convert 22 9 (.slice A2 L d2)).run Tryd.prog x.val = .ok (.string ⟨bs.toArray⟩) x.val := fun x => by
        have h := (S4.out.below (Cl.below ⟨x, rfl⟩)).conv d2
        rw [HLl.out] at h
        exact h
      have hab := ab w4
      have x0 := (Below.refl w4.heap.size w4).drew
      obtain ⟨V0, hV0⟩ : ∃ x, w4.drew = x := ⟨_, rfl⟩
      clear heq
      refine wp_region_tree (.read 0 (.read 1 (.read 2 (.read 3 (.read 4 (.read 5 (.read 6 (.read 7 (.step 8 (.step 9 (.read 10 (.read 11 (.read 12 .done))))))))))))) (fun W => ∃ x : Ab w4, W = x.val) (by kernel_rfl) (by kernel_rfl) (by decide) (fun _ _ d _ _ h => by cases d <;> exact h) (Cl.of (Below.refl _ _).drew) ?_
      rw [hV0] at x0 ⊢
      clear hV0
      have hg := HG.out V0 (X4.out.trans (x0.mono X4.out.size))
      have HGo := Lib.hid hg
      clear hg
      iterate 8 (refine tree_read rfl (fun K hK => ?_); go_simp; refine hK _ ?_; clear hK K)
      refine tree_step rfl (Cl.of x0) (fun K hK => ?_)
      go_simp
      refine HGo.out.mono ?_
      clear HGo
      rintro e V1 ⟨A6, d6, rfl, hd6, s6, b6⟩
      have x1 := x0.trans (b6.mono x0.size)
      refine hK _ _ ⟨Cl.of x1, ?_⟩
      clear hK K b6
      have cv2 : (convert 22 9 (.slice A6 L d6)).run Tryd.prog V1 = .ok (.string ⟨bs.toArray⟩) V1 := by
        have h := s6.conv d6
        rw [HLl.out] at h
        exact h
      refine tree_step rfl (Cl.of x1) (fun K hK => ?_)
      go_simp
      refine hK _ _ ⟨Cl.of x1, ?_⟩
      clear hK K cv2 s6
      iterate 3 (refine tree_read rfl (fun K hK => ?_); go_simp; refine hK _ ?_; clear hK K)
      refine tree_done ?_
      go_wp2
      go_ret
      exact ⟨rfl, X4.out.trans (x1.mono X4.out.size)⟩
end Go.Proofs.YtnlhcogmccladaaDoor.KdfExpandsL
