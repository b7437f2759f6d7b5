/-
  The walk of ticketwardkeep.FieldRoot: it returns true and writes nothing that was there. Conditions: none.
-/
import Derived.Test.YtfngomlknhappaaDoorFieldAlive
import Derived.Test.YtfngomlknhappaaDoorKn
import Derived.Test.YtfngomlknhappaaDoorArrT
import Derived.BigGuard
import Derived.BigQuiet
import Derived.Outline
import Derived.Deep.DeepMust
import Derived.StillTailTactics
import Derived.Deep.DeepCutAuto
namespace Go.Proofs.YtfngomlknhappaaDoor.FieldRootL
open Go.RowKit BytesW ArrW ArrG ArrL ArrT FieldLW FieldAliveW FieldM NumA NumF FieldTW FieldSumW

set_option maxHeartbeats 4000000 in
set_option maxRecDepth 100000 in
theorem walk (l0 : List UInt8) (hl0 : l0.length = 32) (l1 : List UInt8) (hl1 : l1.length = 32) (w : World) (hL : FieldWW.Tabs w) : Calls Tryd.prog 7 #[.agg (Lib.byteCells l0).toArray, .agg (Lib.byteCells l1).toArray] w fun e w' => e = .returned (.bool true) ∧ Below w.heap.size w w' := by
  have N0 := Lib.hid (bc32 hl0)
  have L0 := Lib.hid hl0
  have N1 := Lib.hid (bc32 hl1)
  have L1 := Lib.hid hl1
  have HZ := Lib.hid znum
  have NZ := Lib.hid (bc32 zeros_len)
  have hall := root_two_none l0 l1 hl0 hl1
  obtain ⟨ra, era, hra⟩ : ∃ s e, rootM l0 = (s, e) := ⟨_, _, rfl⟩
  obtain ⟨rb, erb, hrb⟩ : ∃ s e, rootM l1 = (s, e) := ⟨_, _, rfl⟩
  obtain ⟨pp, epp, hpp⟩ : ∃ s e, mulM l0 l1 = (s, e) := ⟨_, _, rfl⟩
  have lra : ra.length = 32 := by have h := rootM_len l0; rw [hra] at h; exact h
  have lrb : rb.length = 32 := by have h := rootM_len l1; rw [hrb] at h; exact h
  have lpp : pp.length = 32 := by have h := binM_len (· * ·) l0 l1; rw [show binM (· * ·) l0 l1 = (pp, epp) from hpp] at h; exact h
  obtain ⟨rk', erk, hrk⟩ : ∃ s e, rootM pp = (s, e) := ⟨_, _, rfl⟩
  have lrk : rk'.length = 32 := by have h := rootM_len pp; rw [hrk] at h; exact h
  rw [hra, hrb, hpp] at hall
  simp only [hrk] at hall
  have Ka := fun V (hV : FieldWW.Tabs V) => froot_any l0 hl0 V hV
  rw [hra] at Ka
  replace Ka := Lib.hid Ka
  have Kb := fun V (hV : FieldWW.Tabs V) => froot_any l1 hl1 V hV
  rw [hrb] at Kb
  replace Kb := Lib.hid Kb
  have Kp := fun V (hV : FieldWW.Tabs V) => fmul_any l0 l1 hl0 hl1 V hV.1
  rw [hpp] at Kp
  replace Kp := Lib.hid Kp
  have Kk := fun V (hV : FieldWW.Tabs V) => froot_any pp lpp V hV
  rw [hrk] at Kk
  replace Kk := Lib.hid Kk
  have Nra := Lib.hid (bc32 lra)
  have Nrb := Lib.hid (bc32 lrb)
  have Npp := Lib.hid (bc32 lpp)
  have Nrk := Lib.hid (bc32 lrk)
  have HAll := Lib.hid hall
  clear hall hra hrb hpp hrk lra lrb lpp lrk hl0 hl1
  go_enter Tryd.func7, Tryd.ntmps7
  go_upto_region 1 with (fail)
  generalize hW : World.alloc _ _ = v0
  obtain ⟨a0, a1, b0, z0⟩ := start2 hW
  try have htv0 : FieldWW.Tabs v0 := FieldWW.Tabs.below (by assumption) b0
  have X := Lib.hid b0
  obtain ⟨g2, hg2⟩ : ∃ g, w.heap.size = g := ⟨_, rfl⟩
  obtain ⟨g3, hg3⟩ : ∃ g, g2 + 1 = g := ⟨_, rfl⟩
  try simp only [hg2, hg3]
  have P2 : Hid (Arr v0 g2 23 (Lib.byteCells l0)) := Lib.hid (by rw [show g2 = w.heap.size by omega]; exact a0)
  have P3 : Hid (Arr v0 g3 23 (Lib.byteCells l1)) := Lib.hid (by rw [show g3 = w.heap.size + 1 by omega]; exact a1)
  clear hW z0 b0 a0 a1 hg2 hg3
  go_wp2_with (fail)
  refine (alive11 _ (by assumption)).mono ?_
  rintro e v1 ⟨rfl, b1⟩
  try have htv1 : FieldWW.Tabs v1 := FieldWW.Tabs.below (by assumption) b1
  replace P2 := Lib.hid (P2.out.below b1 P2.out.lt)
  replace P3 := Lib.hid (P3.out.below b1 P3.out.lt)
  replace X := Lib.hid (X.out.trans (b1.mono X.out.size))
  clear b1
  by_cases h0 : leN l0 < P
  rotate_left
  · skip
    have K1 := fun V (hV : FieldWW.Tabs V) => fmul_any l0 l0 L0.out L0.out V hV.1
    rw [show mulM l0 l0 = (zeros, 2) from binX h0] at K1
    replace K1 := Lib.hid K1
    have K2 := fun V (hV : FieldWW.Tabs V) => froot_any zeros zeros_len V hV
    rw [rootZ] at K2
    replace K2 := Lib.hid K2
    clear h0
    go_wp2_with (first | (show wpList _ _ _ (⟨_, Op.load _ (.tmp 2), _, _, _, _⟩ :: _) _ _; refine Arr.loadL P2.out rfl 23 (.tmp 2) rfl rfl num_u rfl num_size N0.out ?_))
    refine (K1.out _ (by assumption)).mono ?_
    rintro e v2 ⟨rfl, b2⟩
    try have htv2 : FieldWW.Tabs v2 := FieldWW.Tabs.below (by assumption) b2
    replace P2 := Lib.hid (P2.out.below b2 P2.out.lt)
    replace P3 := Lib.hid (P3.out.below b2 P3.out.lt)
    replace X := Lib.hid (X.out.trans (b2.mono X.out.size))
    clear b2
    clear K1
    go_upto_region 4 with (show wpList _ _ _ (⟨_, Op.store _ _ _, _, _, _, _⟩ :: _) _ _; refine Arr.storeL (Arr.new v2 _ _) rfl 23 (.tmp 5) (.tmp 25) rfl rfl (Lib.byteCells zeros) rfl num_size (by rfl) NZ.out (bytes_one _) ?_)
    generalize hw : World.setRow _ _ _ = v3
    obtain ⟨p3, b3, z3⟩ := filled hw
    try have htv3 : FieldWW.Tabs v3 := FieldWW.Tabs.below (by assumption) b3
    replace P2 := Lib.hid (P2.out.below b3 P2.out.lt)
    replace P3 := Lib.hid (P3.out.below b3 P3.out.lt)
    replace X := Lib.hid (X.out.trans (b3.mono X.out.size))
    obtain ⟨g5, hg5⟩ : ∃ g, v2.heap.size = g := ⟨_, rfl⟩
    rw [hg5] at p3 ⊢
    have P5 := Lib.hid p3
    clear p3 b3 z3 hw hg5
    go_wp2_with (first | (show wpList _ _ _ (⟨_, Op.load _ (.tmp 5), _, _, _, _⟩ :: _) _ _; refine Arr.loadL P5.out rfl 23 (.tmp 5) rfl rfl num_u rfl num_size NZ.out ?_))
    refine (K2.out _ (by assumption)).mono ?_
    rintro e v4 ⟨rfl, b4⟩
    try have htv4 : FieldWW.Tabs v4 := FieldWW.Tabs.below (by assumption) b4
    replace P2 := Lib.hid (P2.out.below b4 P2.out.lt)
    replace P3 := Lib.hid (P3.out.below b4 P3.out.lt)
    replace P5 := Lib.hid (P5.out.below b4 P5.out.lt)
    replace X := Lib.hid (X.out.trans (b4.mono X.out.size))
    clear b4
    clear K2
    go_upto_region 5 with (show wpList _ _ _ (⟨_, Op.store _ _ _, _, _, _, _⟩ :: _) _ _; refine Arr.storeL (Arr.new v4 _ _) rfl 23 (.tmp 7) (.tmp 30) rfl rfl (Lib.byteCells zeros) rfl num_size (by rfl) NZ.out (bytes_one _) ?_)
    generalize hw : World.setRow _ _ _ = v5
    obtain ⟨p5, b5, z5⟩ := filled hw
    try have htv5 : FieldWW.Tabs v5 := FieldWW.Tabs.below (by assumption) b5
    replace P2 := Lib.hid (P2.out.below b5 P2.out.lt)
    replace P3 := Lib.hid (P3.out.below b5 P3.out.lt)
    replace P5 := Lib.hid (P5.out.below b5 P5.out.lt)
    replace X := Lib.hid (X.out.trans (b5.mono X.out.size))
    obtain ⟨g7, hg7⟩ : ∃ g, v4.heap.size = g := ⟨_, rfl⟩
    rw [hg7] at p5 ⊢
    have P7 := Lib.hid p5
    clear p5 b5 z5 hw hg7
    go_upto_region 9 with (fail)
    go_wp2_with (first | (show wpList _ _ _ (⟨_, Op.load _ (.tmp 2), _, _, _, _⟩ :: _) _ _; refine Arr.loadL P2.out rfl 23 (.tmp 2) rfl rfl num_u rfl num_size N0.out ?_))
    refine (Ka.out _ (by assumption)).mono ?_
    rintro e v6 ⟨rfl, b6⟩
    try have htv6 : FieldWW.Tabs v6 := FieldWW.Tabs.below (by assumption) b6
    replace P2 := Lib.hid (P2.out.below b6 P2.out.lt)
    replace P3 := Lib.hid (P3.out.below b6 P3.out.lt)
    replace P5 := Lib.hid (P5.out.below b6 P5.out.lt)
    replace P7 := Lib.hid (P7.out.below b6 P7.out.lt)
    replace X := Lib.hid (X.out.trans (b6.mono X.out.size))
    clear b6
    clear Ka
    go_upto_region 10 with (show wpList _ _ _ (⟨_, Op.store _ _ _, _, _, _, _⟩ :: _) _ _; refine Arr.storeL (Arr.new v6 _ _) rfl 23 (.tmp 11) (.tmp 65) rfl rfl (Lib.byteCells ra) rfl num_size (by rfl) Nra.out (bytes_one _) ?_)
    generalize hw : World.setRow _ _ _ = v7
    obtain ⟨p7, b7, z7⟩ := filled hw
    try have htv7 : FieldWW.Tabs v7 := FieldWW.Tabs.below (by assumption) b7
    replace P2 := Lib.hid (P2.out.below b7 P2.out.lt)
    replace P3 := Lib.hid (P3.out.below b7 P3.out.lt)
    replace P5 := Lib.hid (P5.out.below b7 P5.out.lt)
    replace P7 := Lib.hid (P7.out.below b7 P7.out.lt)
    replace X := Lib.hid (X.out.trans (b7.mono X.out.size))
    obtain ⟨g11, hg11⟩ : ∃ g, v6.heap.size = g := ⟨_, rfl⟩
    rw [hg11] at p7 ⊢
    have P11 := Lib.hid p7
    clear p7 b7 z7 hw hg11
    go_wp2_with (first | (show wpList _ _ _ (⟨_, Op.load _ (.tmp 3), _, _, _, _⟩ :: _) _ _; refine Arr.loadL P3.out rfl 23 (.tmp 3) rfl rfl num_u rfl num_size N1.out ?_))
    refine (Kb.out _ (by assumption)).mono ?_
    rintro e v8 ⟨rfl, b8⟩
    try have htv8 : FieldWW.Tabs v8 := FieldWW.Tabs.below (by assumption) b8
    replace P2 := Lib.hid (P2.out.below b8 P2.out.lt)
    replace P3 := Lib.hid (P3.out.below b8 P3.out.lt)
    replace P5 := Lib.hid (P5.out.below b8 P5.out.lt)
    replace P7 := Lib.hid (P7.out.below b8 P7.out.lt)
    replace P11 := Lib.hid (P11.out.below b8 P11.out.lt)
    replace X := Lib.hid (X.out.trans (b8.mono X.out.size))
    clear b8
    clear Kb
    go_upto_region 11 with (show wpList _ _ _ (⟨_, Op.store _ _ _, _, _, _, _⟩ :: _) _ _; refine Arr.storeL (Arr.new v8 _ _) rfl 23 (.tmp 13) (.tmp 70) rfl rfl (Lib.byteCells rb) rfl num_size (by rfl) Nrb.out (bytes_one _) ?_)
    generalize hw : World.setRow _ _ _ = v9
    obtain ⟨p9, b9, z9⟩ := filled hw
    try have htv9 : FieldWW.Tabs v9 := FieldWW.Tabs.below (by assumption) b9
    replace P2 := Lib.hid (P2.out.below b9 P2.out.lt)
    replace P3 := Lib.hid (P3.out.below b9 P3.out.lt)
    replace P5 := Lib.hid (P5.out.below b9 P5.out.lt)
    replace P7 := Lib.hid (P7.out.below b9 P7.out.lt)
    replace P11 := Lib.hid (P11.out.below b9 P11.out.lt)
    replace X := Lib.hid (X.out.trans (b9.mono X.out.size))
    obtain ⟨g13, hg13⟩ : ∃ g, v8.heap.size = g := ⟨_, rfl⟩
    rw [hg13] at p9 ⊢
    have P13 := Lib.hid p9
    clear p9 b9 z9 hw hg13
    go_wp2_with (first | (show wpList _ _ _ (⟨_, Op.load _ (.tmp 2), _, _, _, _⟩ :: _) _ _; refine Arr.loadL P2.out rfl 23 (.tmp 2) rfl rfl num_u rfl num_size N0.out ?_) | (show wpList _ _ _ (⟨_, Op.load _ (.tmp 3), _, _, _, _⟩ :: _) _ _; refine Arr.loadL P3.out rfl 23 (.tmp 3) rfl rfl num_u rfl num_size N1.out ?_))
    refine (Kp.out _ (by assumption)).mono ?_
    rintro e v10 ⟨rfl, b10⟩
    try have htv10 : FieldWW.Tabs v10 := FieldWW.Tabs.below (by assumption) b10
    replace P2 := Lib.hid (P2.out.below b10 P2.out.lt)
    replace P3 := Lib.hid (P3.out.below b10 P3.out.lt)
    replace P5 := Lib.hid (P5.out.below b10 P5.out.lt)
    replace P7 := Lib.hid (P7.out.below b10 P7.out.lt)
    replace P11 := Lib.hid (P11.out.below b10 P11.out.lt)
    replace P13 := Lib.hid (P13.out.below b10 P13.out.lt)
    replace X := Lib.hid (X.out.trans (b10.mono X.out.size))
    clear b10
    clear Kp
    go_upto_region 12 with (show wpList _ _ _ (⟨_, Op.store _ _ _, _, _, _, _⟩ :: _) _ _; refine Arr.storeL (Arr.new v10 _ _) rfl 23 (.tmp 15) (.tmp 76) rfl rfl (Lib.byteCells pp) rfl num_size (by rfl) Npp.out (bytes_one _) ?_)
    generalize hw : World.setRow _ _ _ = v11
    obtain ⟨p11, b11, z11⟩ := filled hw
    try have htv11 : FieldWW.Tabs v11 := FieldWW.Tabs.below (by assumption) b11
    replace P2 := Lib.hid (P2.out.below b11 P2.out.lt)
    replace P3 := Lib.hid (P3.out.below b11 P3.out.lt)
    replace P5 := Lib.hid (P5.out.below b11 P5.out.lt)
    replace P7 := Lib.hid (P7.out.below b11 P7.out.lt)
    replace P11 := Lib.hid (P11.out.below b11 P11.out.lt)
    replace P13 := Lib.hid (P13.out.below b11 P13.out.lt)
    replace X := Lib.hid (X.out.trans (b11.mono X.out.size))
    obtain ⟨g15, hg15⟩ : ∃ g, v10.heap.size = g := ⟨_, rfl⟩
    rw [hg15] at p11 ⊢
    have P15 := Lib.hid p11
    clear p11 b11 z11 hw hg15
    go_wp2_with (first | (show wpList _ _ _ (⟨_, Op.load _ (.tmp 15), _, _, _, _⟩ :: _) _ _; refine Arr.loadL P15.out rfl 23 (.tmp 15) rfl rfl num_u rfl num_size Npp.out ?_))
    refine (Kk.out _ (by assumption)).mono ?_
    rintro e v12 ⟨rfl, b12⟩
    try have htv12 : FieldWW.Tabs v12 := FieldWW.Tabs.below (by assumption) b12
    replace P2 := Lib.hid (P2.out.below b12 P2.out.lt)
    replace P3 := Lib.hid (P3.out.below b12 P3.out.lt)
    replace P5 := Lib.hid (P5.out.below b12 P5.out.lt)
    replace P7 := Lib.hid (P7.out.below b12 P7.out.lt)
    replace P11 := Lib.hid (P11.out.below b12 P11.out.lt)
    replace P13 := Lib.hid (P13.out.below b12 P13.out.lt)
    replace P15 := Lib.hid (P15.out.below b12 P15.out.lt)
    replace X := Lib.hid (X.out.trans (b12.mono X.out.size))
    clear b12
    clear Kk
    go_upto_region 13 with (show wpList _ _ _ (⟨_, Op.store _ _ _, _, _, _, _⟩ :: _) _ _; refine Arr.storeL (Arr.new v12 _ _) rfl 23 (.tmp 17) (.tmp 81) rfl rfl (Lib.byteCells rk') rfl num_size (by rfl) Nrk.out (bytes_one _) ?_)
    generalize hw : World.setRow _ _ _ = v13
    obtain ⟨p13, b13, z13⟩ := filled hw
    try have htv13 : FieldWW.Tabs v13 := FieldWW.Tabs.below (by assumption) b13
    replace P2 := Lib.hid (P2.out.below b13 P2.out.lt)
    replace P3 := Lib.hid (P3.out.below b13 P3.out.lt)
    replace P5 := Lib.hid (P5.out.below b13 P5.out.lt)
    replace P7 := Lib.hid (P7.out.below b13 P7.out.lt)
    replace P11 := Lib.hid (P11.out.below b13 P11.out.lt)
    replace P13 := Lib.hid (P13.out.below b13 P13.out.lt)
    replace P15 := Lib.hid (P15.out.below b13 P15.out.lt)
    replace X := Lib.hid (X.out.trans (b13.mono X.out.size))
    obtain ⟨g17, hg17⟩ : ∃ g, v12.heap.size = g := ⟨_, rfl⟩
    rw [hg17] at p13 ⊢
    have P17 := Lib.hid p13
    clear p13 b13 z13 hw hg17
    by_cases c1 : era = 3
    · subst c1
      by_cases c2 : erb = 3
      · subst c2
        obtain ⟨rfl, rfl⟩ : epp = 0 ∧ erk = 0 := by
          rcases HAll.out with h | h | h
          · exact absurd rfl h
          · exact absurd rfl h
          · exact h
        go_wp2
        go_ret
        exact ⟨rfl, X.out⟩
      · have t2 : (erb != 3) = true := bne_iff_ne.2 c2
        clear c2
        go_wp2
        go_ret
        exact ⟨rfl, X.out⟩
    · have t1 : (era != 3) = true := bne_iff_ne.2 c1
      clear c1
      go_wp2
      go_ret
      exact ⟨rfl, X.out⟩
  obtain ⟨A, e0⟩ := as_toL L0.out h0
  obtain ⟨q, hq⟩ := rootF_sq (a := A * A) ⟨A, rfl⟩
  obtain ⟨hqq, hqe⟩ := rootF_some hq
  have hqa := sq_eq hqq
  obtain ⟨Q, hQ⟩ : ∃ l, toL (A * A) = l := ⟨_, rfl⟩
  have NQ := Lib.hid (bc32 (show Q.length = 32 by rw [← hQ]; exact toL_len _))
  have LQ := Lib.hid (show Q.length = 32 by rw [← hQ]; exact toL_len _)
  obtain ⟨M, hM⟩ : ∃ l, toL (0 - A) = l := ⟨_, rfl⟩
  have NM := Lib.hid (bc32 (show M.length = 32 by rw [← hM]; exact toL_len _))
  have LM := Lib.hid (show M.length = 32 by rw [← hM]; exact toL_len _)
  obtain ⟨R, hR⟩ : ∃ l, toL q = l := ⟨_, rfl⟩
  have NR := Lib.hid (bc32 (show R.length = 32 by rw [← hR]; exact toL_len _))
  have LR := Lib.hid (show R.length = 32 by rw [← hR]; exact toL_len _)
  have K1 := fun V (hV : FieldWW.Tabs V) => fmul_any l0 l0 L0.out L0.out V hV.1
  rw [show mulM l0 l0 = (Q, 0) by rw [e0, mulT, hQ]] at K1
  replace K1 := Lib.hid K1
  have K2 := fun V (hV : FieldWW.Tabs V) => froot_any Q LQ.out V hV
  rw [show rootM Q = (R, 0) by rw [← hQ, rootT hq, hR]] at K2
  replace K2 := Lib.hid K2
  have K3 := fun V (hV : FieldWW.Tabs V) => fsub_any zeros l0 zeros_len L0.out V hV.1
  rw [show subM zeros l0 = (M, 0) by rw [e0, ← toL_zero, subT, hM]] at K3
  replace K3 := Lib.hid K3
  obtain ⟨y0, hy0, hy2⟩ := toL_first q hqe
  rw [hR] at hy0
  have HRM := Lib.hid (show R = l0 ∨ R = M by
    rcases hqa with h | h
    · left; rw [← hR, h, e0]
    · right; rw [← hR, ← hM, h]; exact congrArg toL (by grind))
  have HY0 := Lib.hid hy0
  have hy3 : (y0.toNat : Int).tmod 2 = 0 := by rw [Int.tmod_eq_emod_of_nonneg (by omega)]; omega
  have hy4 : (y0.toNat : Int) % 2 = 0 := by omega
  clear hQ hM hR hq hqq hqe hqa e0 h0 hy0 hy2
  go_wp2_with (first | (show wpList _ _ _ (⟨_, Op.load _ (.tmp 2), _, _, _, _⟩ :: _) _ _; refine Arr.loadL P2.out rfl 23 (.tmp 2) rfl rfl num_u rfl num_size N0.out ?_))
  refine (K1.out _ (by assumption)).mono ?_
  rintro e v2 ⟨rfl, b2⟩
  try have htv2 : FieldWW.Tabs v2 := FieldWW.Tabs.below (by assumption) b2
  replace P2 := Lib.hid (P2.out.below b2 P2.out.lt)
  replace P3 := Lib.hid (P3.out.below b2 P3.out.lt)
  replace X := Lib.hid (X.out.trans (b2.mono X.out.size))
  clear b2
  clear K1
  go_upto_region 4 with (show wpList _ _ _ (⟨_, Op.store _ _ _, _, _, _, _⟩ :: _) _ _; refine Arr.storeL (Arr.new v2 _ _) rfl 23 (.tmp 5) (.tmp 25) rfl rfl (Lib.byteCells Q) rfl num_size (by rfl) NQ.out (bytes_one _) ?_)
  generalize hw : World.setRow _ _ _ = v3
  obtain ⟨p3, b3, z3⟩ := filled hw
  try have htv3 : FieldWW.Tabs v3 := FieldWW.Tabs.below (by assumption) b3
  replace P2 := Lib.hid (P2.out.below b3 P2.out.lt)
  replace P3 := Lib.hid (P3.out.below b3 P3.out.lt)
  replace X := Lib.hid (X.out.trans (b3.mono X.out.size))
  obtain ⟨g5, hg5⟩ : ∃ g, v2.heap.size = g := ⟨_, rfl⟩
  rw [hg5] at p3 ⊢
  have P5 := Lib.hid p3
  clear p3 b3 z3 hw hg5
  go_wp2_with (first | (show wpList _ _ _ (⟨_, Op.load _ (.tmp 5), _, _, _, _⟩ :: _) _ _; refine Arr.loadL P5.out rfl 23 (.tmp 5) rfl rfl num_u rfl num_size NQ.out ?_))
  refine (K2.out _ (by assumption)).mono ?_
  rintro e v4 ⟨rfl, b4⟩
  try have htv4 : FieldWW.Tabs v4 := FieldWW.Tabs.below (by assumption) b4
  replace P2 := Lib.hid (P2.out.below b4 P2.out.lt)
  replace P3 := Lib.hid (P3.out.below b4 P3.out.lt)
  replace P5 := Lib.hid (P5.out.below b4 P5.out.lt)
  replace X := Lib.hid (X.out.trans (b4.mono X.out.size))
  clear b4
  clear K2
  go_upto_region 5 with (show wpList _ _ _ (⟨_, Op.store _ _ _, _, _, _, _⟩ :: _) _ _; refine Arr.storeL (Arr.new v4 _ _) rfl 23 (.tmp 7) (.tmp 30) rfl rfl (Lib.byteCells R) rfl num_size (by rfl) NR.out (bytes_one _) ?_)
  generalize hw : World.setRow _ _ _ = v5
  obtain ⟨p5, b5, z5⟩ := filled hw
  try have htv5 : FieldWW.Tabs v5 := FieldWW.Tabs.below (by assumption) b5
  replace P2 := Lib.hid (P2.out.below b5 P2.out.lt)
  replace P3 := Lib.hid (P3.out.below b5 P3.out.lt)
  replace P5 := Lib.hid (P5.out.below b5 P5.out.lt)
  replace X := Lib.hid (X.out.trans (b5.mono X.out.size))
  obtain ⟨g7, hg7⟩ : ∃ g, v4.heap.size = g := ⟨_, rfl⟩
  rw [hg7] at p5 ⊢
  have P7 := Lib.hid p5
  clear p5 b5 z5 hw hg7
  go_wp2_with (first | (show wpList _ _ _ (⟨_, Op.load _ (.tmp 2), _, _, _, _⟩ :: _) _ _; refine Arr.loadL P2.out rfl 23 (.tmp 2) rfl rfl num_u rfl num_size N0.out ?_) | (show wpList _ _ _ (⟨_, Op.build _ #[], _, _, _, _⟩ :: _) _ _; refine ArrL.buildL rfl rfl rfl (HZ.out _) ?_))
  refine (K3.out _ (by assumption)).mono ?_
  rintro e v6 ⟨rfl, b6⟩
  try have htv6 : FieldWW.Tabs v6 := FieldWW.Tabs.below (by assumption) b6
  replace P2 := Lib.hid (P2.out.below b6 P2.out.lt)
  replace P3 := Lib.hid (P3.out.below b6 P3.out.lt)
  replace P5 := Lib.hid (P5.out.below b6 P5.out.lt)
  replace P7 := Lib.hid (P7.out.below b6 P7.out.lt)
  replace X := Lib.hid (X.out.trans (b6.mono X.out.size))
  clear b6
  clear K3
  go_upto_region 7 with (show wpList _ _ _ (⟨_, Op.store _ _ _, _, _, _, _⟩ :: _) _ _; refine Arr.storeL (Arr.new v6 _ _) rfl 23 (.tmp 9) (.tmp 38) rfl rfl (Lib.byteCells M) rfl num_size (by rfl) NM.out (bytes_one _) ?_)
  generalize hw : World.setRow _ _ _ = v7
  obtain ⟨p7, b7, z7⟩ := filled hw
  try have htv7 : FieldWW.Tabs v7 := FieldWW.Tabs.below (by assumption) b7
  replace P2 := Lib.hid (P2.out.below b7 P2.out.lt)
  replace P3 := Lib.hid (P3.out.below b7 P3.out.lt)
  replace P5 := Lib.hid (P5.out.below b7 P5.out.lt)
  replace P7 := Lib.hid (P7.out.below b7 P7.out.lt)
  replace X := Lib.hid (X.out.trans (b7.mono X.out.size))
  obtain ⟨g9, hg9⟩ : ∃ g, v6.heap.size = g := ⟨_, rfl⟩
  rw [hg9] at p7 ⊢
  have P9 := Lib.hid p7
  clear p7 b7 z7 hw hg9
  have c70 : v7.cell? ⟨g7, 0, none⟩ = some (.int .u8 (y0.toNat : Int)) := (P7.out.cell 0).trans (bc_at R 0 y0 HY0.out)
  by_cases hRa : R = l0
  · have q1 := eqn R l0 LR.out L0.out v7
    rw [decide_eq_true hRa] at q1
    clear hRa HRM
    go_upto_region 9 with (first | (show wpList _ _ _ (⟨_, Op.load _ (.tmp 7), _, _, _, _⟩ :: _) _ _; refine ArrL.loadLg P7.out (by rfl) 23 (.tmp 7) rfl rfl num_u rfl num_size NR.out ?_) | (show wpList _ _ _ (⟨_, Op.load _ (.tmp 2), _, _, _, _⟩ :: _) _ _; refine ArrL.loadLg P2.out (by rfl) 23 (.tmp 2) rfl rfl num_u rfl num_size N0.out ?_) | (show wpList _ _ _ (⟨_, Op.load _ (.tmp 9), _, _, _, _⟩ :: _) _ _; refine ArrL.loadLg P9.out (by rfl) 23 (.tmp 9) rfl rfl num_u rfl num_size NM.out ?_))
    clear c70 q1 hy3 hy4
    go_wp2_with (first | (show wpList _ _ _ (⟨_, Op.load _ (.tmp 2), _, _, _, _⟩ :: _) _ _; refine Arr.loadL P2.out rfl 23 (.tmp 2) rfl rfl num_u rfl num_size N0.out ?_))
    refine (Ka.out _ (by assumption)).mono ?_
    rintro e v8 ⟨rfl, b8⟩
    try have htv8 : FieldWW.Tabs v8 := FieldWW.Tabs.below (by assumption) b8
    replace P2 := Lib.hid (P2.out.below b8 P2.out.lt)
    replace P3 := Lib.hid (P3.out.below b8 P3.out.lt)
    replace P5 := Lib.hid (P5.out.below b8 P5.out.lt)
    replace P7 := Lib.hid (P7.out.below b8 P7.out.lt)
    replace P9 := Lib.hid (P9.out.below b8 P9.out.lt)
    replace X := Lib.hid (X.out.trans (b8.mono X.out.size))
    clear b8
    clear Ka
    go_upto_region 10 with (show wpList _ _ _ (⟨_, Op.store _ _ _, _, _, _, _⟩ :: _) _ _; refine Arr.storeL (Arr.new v8 _ _) rfl 23 (.tmp 11) (.tmp 65) rfl rfl (Lib.byteCells ra) rfl num_size (by rfl) Nra.out (bytes_one _) ?_)
    generalize hw : World.setRow _ _ _ = v9
    obtain ⟨p9, b9, z9⟩ := filled hw
    try have htv9 : FieldWW.Tabs v9 := FieldWW.Tabs.below (by assumption) b9
    replace P2 := Lib.hid (P2.out.below b9 P2.out.lt)
    replace P3 := Lib.hid (P3.out.below b9 P3.out.lt)
    replace P5 := Lib.hid (P5.out.below b9 P5.out.lt)
    replace P7 := Lib.hid (P7.out.below b9 P7.out.lt)
    replace P9 := Lib.hid (P9.out.below b9 P9.out.lt)
    replace X := Lib.hid (X.out.trans (b9.mono X.out.size))
    obtain ⟨g11, hg11⟩ : ∃ g, v8.heap.size = g := ⟨_, rfl⟩
    rw [hg11] at p9 ⊢
    have P11 := Lib.hid p9
    clear p9 b9 z9 hw hg11
    go_wp2_with (first | (show wpList _ _ _ (⟨_, Op.load _ (.tmp 3), _, _, _, _⟩ :: _) _ _; refine Arr.loadL P3.out rfl 23 (.tmp 3) rfl rfl num_u rfl num_size N1.out ?_))
    refine (Kb.out _ (by assumption)).mono ?_
    rintro e v10 ⟨rfl, b10⟩
    try have htv10 : FieldWW.Tabs v10 := FieldWW.Tabs.below (by assumption) b10
    replace P2 := Lib.hid (P2.out.below b10 P2.out.lt)
    replace P3 := Lib.hid (P3.out.below b10 P3.out.lt)
    replace P5 := Lib.hid (P5.out.below b10 P5.out.lt)
    replace P7 := Lib.hid (P7.out.below b10 P7.out.lt)
    replace P9 := Lib.hid (P9.out.below b10 P9.out.lt)
    replace P11 := Lib.hid (P11.out.below b10 P11.out.lt)
    replace X := Lib.hid (X.out.trans (b10.mono X.out.size))
    clear b10
    clear Kb
    go_upto_region 11 with (show wpList _ _ _ (⟨_, Op.store _ _ _, _, _, _, _⟩ :: _) _ _; refine Arr.storeL (Arr.new v10 _ _) rfl 23 (.tmp 13) (.tmp 70) rfl rfl (Lib.byteCells rb) rfl num_size (by rfl) Nrb.out (bytes_one _) ?_)
    generalize hw : World.setRow _ _ _ = v11
    obtain ⟨p11, b11, z11⟩ := filled hw
    try have htv11 : FieldWW.Tabs v11 := FieldWW.Tabs.below (by assumption) b11
    replace P2 := Lib.hid (P2.out.below b11 P2.out.lt)
    replace P3 := Lib.hid (P3.out.below b11 P3.out.lt)
    replace P5 := Lib.hid (P5.out.below b11 P5.out.lt)
    replace P7 := Lib.hid (P7.out.below b11 P7.out.lt)
    replace P9 := Lib.hid (P9.out.below b11 P9.out.lt)
    replace P11 := Lib.hid (P11.out.below b11 P11.out.lt)
    replace X := Lib.hid (X.out.trans (b11.mono X.out.size))
    obtain ⟨g13, hg13⟩ : ∃ g, v10.heap.size = g := ⟨_, rfl⟩
    rw [hg13] at p11 ⊢
    have P13 := Lib.hid p11
    clear p11 b11 z11 hw hg13
    go_wp2_with (first | (show wpList _ _ _ (⟨_, Op.load _ (.tmp 2), _, _, _, _⟩ :: _) _ _; refine Arr.loadL P2.out rfl 23 (.tmp 2) rfl rfl num_u rfl num_size N0.out ?_) | (show wpList _ _ _ (⟨_, Op.load _ (.tmp 3), _, _, _, _⟩ :: _) _ _; refine Arr.loadL P3.out rfl 23 (.tmp 3) rfl rfl num_u rfl num_size N1.out ?_))
    refine (Kp.out _ (by assumption)).mono ?_
    rintro e v12 ⟨rfl, b12⟩
    try have htv12 : FieldWW.Tabs v12 := FieldWW.Tabs.below (by assumption) b12
    replace P2 := Lib.hid (P2.out.below b12 P2.out.lt)
    replace P3 := Lib.hid (P3.out.below b12 P3.out.lt)
    replace P5 := Lib.hid (P5.out.below b12 P5.out.lt)
    replace P7 := Lib.hid (P7.out.below b12 P7.out.lt)
    replace P9 := Lib.hid (P9.out.below b12 P9.out.lt)
    replace P11 := Lib.hid (P11.out.below b12 P11.out.lt)
    replace P13 := Lib.hid (P13.out.below b12 P13.out.lt)
    replace X := Lib.hid (X.out.trans (b12.mono X.out.size))
    clear b12
    clear Kp
    go_upto_region 12 with (show wpList _ _ _ (⟨_, Op.store _ _ _, _, _, _, _⟩ :: _) _ _; refine Arr.storeL (Arr.new v12 _ _) rfl 23 (.tmp 15) (.tmp 76) rfl rfl (Lib.byteCells pp) rfl num_size (by rfl) Npp.out (bytes_one _) ?_)
    generalize hw : World.setRow _ _ _ = v13
    obtain ⟨p13, b13, z13⟩ := filled hw
    try have htv13 : FieldWW.Tabs v13 := FieldWW.Tabs.below (by assumption) b13
    replace P2 := Lib.hid (P2.out.below b13 P2.out.lt)
    replace P3 := Lib.hid (P3.out.below b13 P3.out.lt)
    replace P5 := Lib.hid (P5.out.below b13 P5.out.lt)
    replace P7 := Lib.hid (P7.out.below b13 P7.out.lt)
    replace P9 := Lib.hid (P9.out.below b13 P9.out.lt)
    replace P11 := Lib.hid (P11.out.below b13 P11.out.lt)
    replace P13 := Lib.hid (P13.out.below b13 P13.out.lt)
    replace X := Lib.hid (X.out.trans (b13.mono X.out.size))
    obtain ⟨g15, hg15⟩ : ∃ g, v12.heap.size = g := ⟨_, rfl⟩
    rw [hg15] at p13 ⊢
    have P15 := Lib.hid p13
    clear p13 b13 z13 hw hg15
    go_wp2_with (first | (show wpList _ _ _ (⟨_, Op.load _ (.tmp 15), _, _, _, _⟩ :: _) _ _; refine Arr.loadL P15.out rfl 23 (.tmp 15) rfl rfl num_u rfl num_size Npp.out ?_))
    refine (Kk.out _ (by assumption)).mono ?_
    rintro e v14 ⟨rfl, b14⟩
    try have htv14 : FieldWW.Tabs v14 := FieldWW.Tabs.below (by assumption) b14
    replace P2 := Lib.hid (P2.out.below b14 P2.out.lt)
    replace P3 := Lib.hid (P3.out.below b14 P3.out.lt)
    replace P5 := Lib.hid (P5.out.below b14 P5.out.lt)
    replace P7 := Lib.hid (P7.out.below b14 P7.out.lt)
    replace P9 := Lib.hid (P9.out.below b14 P9.out.lt)
    replace P11 := Lib.hid (P11.out.below b14 P11.out.lt)
    replace P13 := Lib.hid (P13.out.below b14 P13.out.lt)
    replace P15 := Lib.hid (P15.out.below b14 P15.out.lt)
    replace X := Lib.hid (X.out.trans (b14.mono X.out.size))
    clear b14
    clear Kk
    go_upto_region 13 with (show wpList _ _ _ (⟨_, Op.store _ _ _, _, _, _, _⟩ :: _) _ _; refine Arr.storeL (Arr.new v14 _ _) rfl 23 (.tmp 17) (.tmp 81) rfl rfl (Lib.byteCells rk') rfl num_size (by rfl) Nrk.out (bytes_one _) ?_)
    generalize hw : World.setRow _ _ _ = v15
    obtain ⟨p15, b15, z15⟩ := filled hw
    try have htv15 : FieldWW.Tabs v15 := FieldWW.Tabs.below (by assumption) b15
    replace P2 := Lib.hid (P2.out.below b15 P2.out.lt)
    replace P3 := Lib.hid (P3.out.below b15 P3.out.lt)
    replace P5 := Lib.hid (P5.out.below b15 P5.out.lt)
    replace P7 := Lib.hid (P7.out.below b15 P7.out.lt)
    replace P9 := Lib.hid (P9.out.below b15 P9.out.lt)
    replace P11 := Lib.hid (P11.out.below b15 P11.out.lt)
    replace P13 := Lib.hid (P13.out.below b15 P13.out.lt)
    replace P15 := Lib.hid (P15.out.below b15 P15.out.lt)
    replace X := Lib.hid (X.out.trans (b15.mono X.out.size))
    obtain ⟨g17, hg17⟩ : ∃ g, v14.heap.size = g := ⟨_, rfl⟩
    rw [hg17] at p15 ⊢
    have P17 := Lib.hid p15
    clear p15 b15 z15 hw hg17
    by_cases c1 : era = 3
    · subst c1
      by_cases c2 : erb = 3
      · subst c2
        obtain ⟨rfl, rfl⟩ : epp = 0 ∧ erk = 0 := by
          rcases HAll.out with h | h | h
          · exact absurd rfl h
          · exact absurd rfl h
          · exact h
        go_wp2
        go_ret
        exact ⟨rfl, X.out⟩
      · have t2 : (erb != 3) = true := bne_iff_ne.2 c2
        clear c2
        go_wp2
        go_ret
        exact ⟨rfl, X.out⟩
    · have t1 : (era != 3) = true := bne_iff_ne.2 c1
      clear c1
      go_wp2
      go_ret
      exact ⟨rfl, X.out⟩
  · have q1 := eqn R l0 LR.out L0.out v7
    rw [decide_eq_false hRa] at q1
    have q2 := eqn R M LR.out LM.out v7
    rw [decide_eq_true (HRM.out.resolve_left hRa)] at q2
    clear hRa HRM
    go_upto_region 9 with (first | (show wpList _ _ _ (⟨_, Op.load _ (.tmp 7), _, _, _, _⟩ :: _) _ _; refine ArrL.loadLg P7.out (by rfl) 23 (.tmp 7) rfl rfl num_u rfl num_size NR.out ?_) | (show wpList _ _ _ (⟨_, Op.load _ (.tmp 2), _, _, _, _⟩ :: _) _ _; refine ArrL.loadLg P2.out (by rfl) 23 (.tmp 2) rfl rfl num_u rfl num_size N0.out ?_) | (show wpList _ _ _ (⟨_, Op.load _ (.tmp 9), _, _, _, _⟩ :: _) _ _; refine ArrL.loadLg P9.out (by rfl) 23 (.tmp 9) rfl rfl num_u rfl num_size NM.out ?_))
    clear c70 q1 q2 hy3 hy4
    go_wp2_with (first | (show wpList _ _ _ (⟨_, Op.load _ (.tmp 2), _, _, _, _⟩ :: _) _ _; refine Arr.loadL P2.out rfl 23 (.tmp 2) rfl rfl num_u rfl num_size N0.out ?_))
    refine (Ka.out _ (by assumption)).mono ?_
    rintro e v8 ⟨rfl, b8⟩
    try have htv8 : FieldWW.Tabs v8 := FieldWW.Tabs.below (by assumption) b8
    replace P2 := Lib.hid (P2.out.below b8 P2.out.lt)
    replace P3 := Lib.hid (P3.out.below b8 P3.out.lt)
    replace P5 := Lib.hid (P5.out.below b8 P5.out.lt)
    replace P7 := Lib.hid (P7.out.below b8 P7.out.lt)
    replace P9 := Lib.hid (P9.out.below b8 P9.out.lt)
    replace X := Lib.hid (X.out.trans (b8.mono X.out.size))
    clear b8
    clear Ka
    go_upto_region 10 with (show wpList _ _ _ (⟨_, Op.store _ _ _, _, _, _, _⟩ :: _) _ _; refine Arr.storeL (Arr.new v8 _ _) rfl 23 (.tmp 11) (.tmp 65) rfl rfl (Lib.byteCells ra) rfl num_size (by rfl) Nra.out (bytes_one _) ?_)
    generalize hw : World.setRow _ _ _ = v9
    obtain ⟨p9, b9, z9⟩ := filled hw
    try have htv9 : FieldWW.Tabs v9 := FieldWW.Tabs.below (by assumption) b9
    replace P2 := Lib.hid (P2.out.below b9 P2.out.lt)
    replace P3 := Lib.hid (P3.out.below b9 P3.out.lt)
    replace P5 := Lib.hid (P5.out.below b9 P5.out.lt)
    replace P7 := Lib.hid (P7.out.below b9 P7.out.lt)
    replace P9 := Lib.hid (P9.out.below b9 P9.out.lt)
    replace X := Lib.hid (X.out.trans (b9.mono X.out.size))
    obtain ⟨g11, hg11⟩ : ∃ g, v8.heap.size = g := ⟨_, rfl⟩
    rw [hg11] at p9 ⊢
    have P11 := Lib.hid p9
    clear p9 b9 z9 hw hg11
    go_wp2_with (first | (show wpList _ _ _ (⟨_, Op.load _ (.tmp 3), _, _, _, _⟩ :: _) _ _; refine Arr.loadL P3.out rfl 23 (.tmp 3) rfl rfl num_u rfl num_size N1.out ?_))
    refine (Kb.out _ (by assumption)).mono ?_
    rintro e v10 ⟨rfl, b10⟩
    try have htv10 : FieldWW.Tabs v10 := FieldWW.Tabs.below (by assumption) b10
    replace P2 := Lib.hid (P2.out.below b10 P2.out.lt)
    replace P3 := Lib.hid (P3.out.below b10 P3.out.lt)
    replace P5 := Lib.hid (P5.out.below b10 P5.out.lt)
    replace P7 := Lib.hid (P7.out.below b10 P7.out.lt)
    replace P9 := Lib.hid (P9.out.below b10 P9.out.lt)
    replace P11 := Lib.hid (P11.out.below b10 P11.out.lt)
    replace X := Lib.hid (X.out.trans (b10.mono X.out.size))
    clear b10
    clear Kb
    go_upto_region 11 with (show wpList _ _ _ (⟨_, Op.store _ _ _, _, _, _, _⟩ :: _) _ _; refine Arr.storeL (Arr.new v10 _ _) rfl 23 (.tmp 13) (.tmp 70) rfl rfl (Lib.byteCells rb) rfl num_size (by rfl) Nrb.out (bytes_one _) ?_)
    generalize hw : World.setRow _ _ _ = v11
    obtain ⟨p11, b11, z11⟩ := filled hw
    try have htv11 : FieldWW.Tabs v11 := FieldWW.Tabs.below (by assumption) b11
    replace P2 := Lib.hid (P2.out.below b11 P2.out.lt)
    replace P3 := Lib.hid (P3.out.below b11 P3.out.lt)
    replace P5 := Lib.hid (P5.out.below b11 P5.out.lt)
    replace P7 := Lib.hid (P7.out.below b11 P7.out.lt)
    replace P9 := Lib.hid (P9.out.below b11 P9.out.lt)
    replace P11 := Lib.hid (P11.out.below b11 P11.out.lt)
    replace X := Lib.hid (X.out.trans (b11.mono X.out.size))
    obtain ⟨g13, hg13⟩ : ∃ g, v10.heap.size = g := ⟨_, rfl⟩
    rw [hg13] at p11 ⊢
    have P13 := Lib.hid p11
    clear p11 b11 z11 hw hg13
    go_wp2_with (first | (show wpList _ _ _ (⟨_, Op.load _ (.tmp 2), _, _, _, _⟩ :: _) _ _; refine Arr.loadL P2.out rfl 23 (.tmp 2) rfl rfl num_u rfl num_size N0.out ?_) | (show wpList _ _ _ (⟨_, Op.load _ (.tmp 3), _, _, _, _⟩ :: _) _ _; refine Arr.loadL P3.out rfl 23 (.tmp 3) rfl rfl num_u rfl num_size N1.out ?_))
    refine (Kp.out _ (by assumption)).mono ?_
    rintro e v12 ⟨rfl, b12⟩
    try have htv12 : FieldWW.Tabs v12 := FieldWW.Tabs.below (by assumption) b12
    replace P2 := Lib.hid (P2.out.below b12 P2.out.lt)
    replace P3 := Lib.hid (P3.out.below b12 P3.out.lt)
    replace P5 := Lib.hid (P5.out.below b12 P5.out.lt)
    replace P7 := Lib.hid (P7.out.below b12 P7.out.lt)
    replace P9 := Lib.hid (P9.out.below b12 P9.out.lt)
    replace P11 := Lib.hid (P11.out.below b12 P11.out.lt)
    replace P13 := Lib.hid (P13.out.below b12 P13.out.lt)
    replace X := Lib.hid (X.out.trans (b12.mono X.out.size))
    clear b12
    clear Kp
    go_upto_region 12 with (show wpList _ _ _ (⟨_, Op.store _ _ _, _, _, _, _⟩ :: _) _ _; refine Arr.storeL (Arr.new v12 _ _) rfl 23 (.tmp 15) (.tmp 76) rfl rfl (Lib.byteCells pp) rfl num_size (by rfl) Npp.out (bytes_one _) ?_)
    generalize hw : World.setRow _ _ _ = v13
    obtain ⟨p13, b13, z13⟩ := filled hw
    try have htv13 : FieldWW.Tabs v13 := FieldWW.Tabs.below (by assumption) b13
    replace P2 := Lib.hid (P2.out.below b13 P2.out.lt)
    replace P3 := Lib.hid (P3.out.below b13 P3.out.lt)
    replace P5 := Lib.hid (P5.out.below b13 P5.out.lt)
    replace P7 := Lib.hid (P7.out.below b13 P7.out.lt)
    replace P9 := Lib.hid (P9.out.below b13 P9.out.lt)
    replace P11 := Lib.hid (P11.out.below b13 P11.out.lt)
    replace P13 := Lib.hid (P13.out.below b13 P13.out.lt)
    replace X := Lib.hid (X.out.trans (b13.mono X.out.size))
    obtain ⟨g15, hg15⟩ : ∃ g, v12.heap.size = g := ⟨_, rfl⟩
    rw [hg15] at p13 ⊢
    have P15 := Lib.hid p13
    clear p13 b13 z13 hw hg15
    go_wp2_with (first | (show wpList _ _ _ (⟨_, Op.load _ (.tmp 15), _, _, _, _⟩ :: _) _ _; refine Arr.loadL P15.out rfl 23 (.tmp 15) rfl rfl num_u rfl num_size Npp.out ?_))
    refine (Kk.out _ (by assumption)).mono ?_
    rintro e v14 ⟨rfl, b14⟩
    try have htv14 : FieldWW.Tabs v14 := FieldWW.Tabs.below (by assumption) b14
    replace P2 := Lib.hid (P2.out.below b14 P2.out.lt)
    replace P3 := Lib.hid (P3.out.below b14 P3.out.lt)
    replace P5 := Lib.hid (P5.out.below b14 P5.out.lt)
    replace P7 := Lib.hid (P7.out.below b14 P7.out.lt)
    replace P9 := Lib.hid (P9.out.below b14 P9.out.lt)
    replace P11 := Lib.hid (P11.out.below b14 P11.out.lt)
    replace P13 := Lib.hid (P13.out.below b14 P13.out.lt)
    replace P15 := Lib.hid (P15.out.below b14 P15.out.lt)
    replace X := Lib.hid (X.out.trans (b14.mono X.out.size))
    clear b14
    clear Kk
    go_upto_region 13 with (show wpList _ _ _ (⟨_, Op.store _ _ _, _, _, _, _⟩ :: _) _ _; refine Arr.storeL (Arr.new v14 _ _) rfl 23 (.tmp 17) (.tmp 81) rfl rfl (Lib.byteCells rk') rfl num_size (by rfl) Nrk.out (bytes_one _) ?_)
    generalize hw : World.setRow _ _ _ = v15
    obtain ⟨p15, b15, z15⟩ := filled hw
    try have htv15 : FieldWW.Tabs v15 := FieldWW.Tabs.below (by assumption) b15
    replace P2 := Lib.hid (P2.out.below b15 P2.out.lt)
    replace P3 := Lib.hid (P3.out.below b15 P3.out.lt)
    replace P5 := Lib.hid (P5.out.below b15 P5.out.lt)
    replace P7 := Lib.hid (P7.out.below b15 P7.out.lt)
    replace P9 := Lib.hid (P9.out.below b15 P9.out.lt)
    replace P11 := Lib.hid (P11.out.below b15 P11.out.lt)
    replace P13 := Lib.hid (P13.out.below b15 P13.out.lt)
    replace P15 := Lib.hid (P15.out.below b15 P15.out.lt)
    replace X := Lib.hid (X.out.trans (b15.mono X.out.size))
    obtain ⟨g17, hg17⟩ : ∃ g, v14.heap.size = g := ⟨_, rfl⟩
    rw [hg17] at p15 ⊢
    have P17 := Lib.hid p15
    clear p15 b15 z15 hw hg17
    by_cases c1 : era = 3
    · subst c1
      by_cases c2 : erb = 3
      · subst c2
        obtain ⟨rfl, rfl⟩ : epp = 0 ∧ erk = 0 := by
          rcases HAll.out with h | h | h
          · exact absurd rfl h
          · exact absurd rfl h
          · exact h
        go_wp2
        go_ret
        exact ⟨rfl, X.out⟩
      · have t2 : (erb != 3) = true := bne_iff_ne.2 c2
        clear c2
        go_wp2
        go_ret
        exact ⟨rfl, X.out⟩
    · have t1 : (era != 3) = true := bne_iff_ne.2 c1
      clear c1
      go_wp2
      go_ret
      exact ⟨rfl, X.out⟩
end Go.Proofs.YtfngomlknhappaaDoor.FieldRootL
