/-
  The walk of ticketwardlaw.FieldRoots: it returns true and writes nothing that was there. Conditions: none.
-/
import Derived.Test.YtfngomlknhappaaDoorFieldSum
import Derived.Test.YtfngomlknhappaaDoorKo
import Derived.Test.YtfngomlknhappaaDoorArrT
import Derived.BigGuard
import Derived.BigQuiet
namespace Go.Proofs.YtfngomlknhappaaDoor.FieldRootsL
open Go.RowKit BytesW ArrW ArrG ArrL ArrT BigW BigNewW BigMulW BigNegW BigAddW BigSubW KBigW FieldM NumA NumF FieldTW FieldSumW

theorem knum_val (x : F) : ln ((x.val : Int) % (P : Int)).toNat = toL x := by
  rw [show (x.val : Int) % (P : Int) = ((x.val % P : Nat) : Int) by push_cast; rfl, Int.toNat_natCast, Nat.mod_eq_of_lt x.isLt]
  rfl
theorem invM_bad {a : List UInt8} (h : ¬ leN a < P) : invM a = (zeros, 2) := if_neg h
theorem rootM_bad {a : List UInt8} (h : ¬ leN a < P) : rootM a = (zeros, 2) := if_neg h
theorem invM_zero {a : List UInt8} (h : leN a < P) (h0 : leN a = 0) : invM a = (zeros, 3) := by unfold invM; rw [if_pos h, if_pos h0]
theorem invM_ok {a : List UInt8} (h : leN a < P) (h0 : ¬ leN a = 0) : invM a = (toL (inv (ofL a)), 0) := by unfold invM; rw [if_pos h, if_neg h0]
theorem rootM_some {a : List UInt8} {r : F} (h : leN a < P) (hr : rootF (ofL a) = some r) : rootM a = (toL r, 0) := by unfold rootM; rw [if_pos h, hr]
theorem rootM_none {a : List UInt8} (h : leN a < P) (hr : rootF (ofL a) = none) : rootM a = (zeros, 3) := by unfold rootM; rw [if_pos h, hr]
theorem inv_nat {x : Nat} (h : x < P) : (inv (el x)).val = x ^ (P - 2) % P := by
  unfold inv
  rw [fp_val, show (el x).val = x from Nat.mod_eq_of_lt h]

set_option maxHeartbeats 4000000 in
set_option maxRecDepth 100000 in
theorem walk (l0 : List UInt8) (hl0 : l0.length = 32) (w : World) (hL : FieldWW.Tabs w) : Calls Tryd.prog 4 #[.agg (Lib.byteCells l0).toArray] w fun e w' => e = .returned (.bool true) ∧ Below w.heap.size w w' := by
  have L0 := Lib.hid hl0
  have N0 := Lib.hid (bc32 hl0)
  obtain ⟨i, ei, hi⟩ : ∃ s es, invM l0 = (s, es) := ⟨_, _, rfl⟩
  obtain ⟨r, er, hr⟩ : ∃ s es, rootM l0 = (s, es) := ⟨_, _, rfl⟩
  have CI := fun V (hV : FieldWW.Tabs V) => finv_any l0 hl0 V hV.1
  have CR := fun V (hV : FieldWW.Tabs V) => froot_any l0 hl0 V hV
  have lI := invM_len l0
  have lR := rootM_len l0
  rw [hi] at CI lI
  rw [hr] at CR lR
  have NI := Lib.hid (bc32 lI)
  have NR := Lib.hid (bc32 lR)
  have LI := Lib.hid (show i.length = 32 from lI)
  have LR := Lib.hid (show r.length = 32 from lR)
  replace CI := Lib.hid CI
  replace CR := Lib.hid CR
  have HI := Lib.hid hi
  have HR := Lib.hid hr
  have CK := Lib.hid (fun (V : World) => kright_any l0 L0.out V)
  clear hi hr lI lR hl0
  go_enter Tryd.func4, Tryd.ntmps4
  go_upto_region 1 with (fail)
  generalize hW : World.alloc _ _ = v0
  obtain ⟨a0, b0, z0⟩ := start1 hW
  try have htv0 : FieldWW.Tabs v0 := FieldWW.Tabs.below (by assumption) b0
  have X := Lib.hid b0
  obtain ⟨g1, hg1⟩ : ∃ g, w.heap.size = g := ⟨_, rfl⟩
  rw [hg1] at a0
  simp only [hg1]
  have P1 : Hid (Arr v0 g1 23 (Lib.byteCells l0)) := Lib.hid a0
  clear hW a0 b0 z0 hg1
  go_wp2_with (first | (show wpList _ _ _ (⟨_, Op.load _ (.tmp 1), _, _, _, _⟩ :: _) _ _; refine Arr.loadL P1.out rfl 23 (.tmp 1) rfl rfl num_u rfl num_size N0.out ?_))
  refine (CI.out _ (by assumption)).mono ?_
  rintro e v1 ⟨rfl, b1⟩
  try have htv1 : FieldWW.Tabs v1 := FieldWW.Tabs.below (by assumption) b1
  replace P1 := Lib.hid (P1.out.below b1 P1.out.lt)
  replace X := Lib.hid (X.out.trans (b1.mono X.out.size))
  clear b1
  go_upto_region 2 with (show wpList _ _ _ (⟨_, Op.store _ _ _, _, _, _, _⟩ :: _) _ _; refine Arr.storeL (Arr.new v1 _ _) rfl 23 (.tmp 3) (.tmp 12) rfl rfl (Lib.byteCells i) rfl num_size (by rfl) NI.out (bytes_one _) ?_)
  generalize hw : World.setRow _ _ _ = v2
  obtain ⟨p2, b2, z2⟩ := filled hw
  try have htv2 : FieldWW.Tabs v2 := FieldWW.Tabs.below (by assumption) b2
  replace P1 := Lib.hid (P1.out.below b2 P1.out.lt)
  replace X := Lib.hid (X.out.trans (b2.mono X.out.size))
  obtain ⟨g3, hg3⟩ : ∃ g, v1.heap.size = g := ⟨_, rfl⟩
  rw [hg3] at p2 ⊢
  have P3 := Lib.hid p2
  clear p2 b2 z2 hw hg3
  go_wp2_with (first | (show wpList _ _ _ (⟨_, Op.load _ (.tmp 1), _, _, _, _⟩ :: _) _ _; refine Arr.loadL P1.out rfl 23 (.tmp 1) rfl rfl num_u rfl num_size N0.out ?_))
  refine (CR.out _ (by assumption)).mono ?_
  rintro e v3 ⟨rfl, b3⟩
  try have htv3 : FieldWW.Tabs v3 := FieldWW.Tabs.below (by assumption) b3
  replace P1 := Lib.hid (P1.out.below b3 P1.out.lt)
  replace P3 := Lib.hid (P3.out.below b3 P3.out.lt)
  replace X := Lib.hid (X.out.trans (b3.mono X.out.size))
  clear b3
  go_upto_region 3 with (show wpList _ _ _ (⟨_, Op.store _ _ _, _, _, _, _⟩ :: _) _ _; refine Arr.storeL (Arr.new v3 _ _) rfl 23 (.tmp 5) (.tmp 17) rfl rfl (Lib.byteCells r) rfl num_size (by rfl) NR.out (bytes_one _) ?_)
  generalize hw : World.setRow _ _ _ = v4
  obtain ⟨p4, b4, z4⟩ := filled hw
  try have htv4 : FieldWW.Tabs v4 := FieldWW.Tabs.below (by assumption) b4
  replace P1 := Lib.hid (P1.out.below b4 P1.out.lt)
  replace P3 := Lib.hid (P3.out.below b4 P3.out.lt)
  replace X := Lib.hid (X.out.trans (b4.mono X.out.size))
  obtain ⟨g5, hg5⟩ : ∃ g, v3.heap.size = g := ⟨_, rfl⟩
  rw [hg5] at p4 ⊢
  have P5 := Lib.hid p4
  clear p4 b4 z4 hw hg5
  clear CI CR
  by_cases h0 : leN l0 < P
  rotate_left
  · have e1 : (i, ei) = (zeros, 2) := HI.out.symm.trans (invM_bad h0)
    have e2 : (r, er) = (zeros, 2) := HR.out.symm.trans (rootM_bad h0)
    simp only [Prod.mk.injEq] at e1 e2
    obtain ⟨rfl, rfl⟩ := e1
    obtain ⟨rfl, rfl⟩ := e2
    rw [decide_eq_false h0] at CK
    have HZ := Lib.hid znum
    have eqz := fun V => eqn_same zeros rfl V
    clear h0 HI HR LI LR
    go_wp2_with (first | (show wpList _ _ _ (⟨_, Op.load _ (.tmp 1), _, _, _, _⟩ :: _) _ _; refine Arr.loadL P1.out rfl 23 (.tmp 1) rfl rfl num_u rfl num_size N0.out ?_))
    refine (CK.out _).mono ?_
    rintro e v5 ⟨rfl, b5⟩
    try have htv5 : FieldWW.Tabs v5 := FieldWW.Tabs.below (by assumption) b5
    replace P1 := Lib.hid (P1.out.below b5 P1.out.lt)
    replace P3 := Lib.hid (P3.out.below b5 P3.out.lt)
    replace P5 := Lib.hid (P5.out.below b5 P5.out.lt)
    replace X := Lib.hid (X.out.trans (b5.mono X.out.size))
    clear b5
    go_wp2_with (first | (show wpList _ _ _ (⟨_, Op.load _ (.tmp 3), _, _, _, _⟩ :: _) _ _; refine ArrL.loadLg P3.out (by rfl) 23 (.tmp 3) rfl rfl num_u rfl num_size NI.out ?_) | (show wpList _ _ _ (⟨_, Op.load _ (.tmp 5), _, _, _, _⟩ :: _) _ _; refine ArrL.loadLg P5.out (by rfl) 23 (.tmp 5) rfl rfl num_u rfl num_size NR.out ?_) | (show wpList _ _ _ (⟨_, Op.build _ _, _, _, _, _⟩ :: _) _ _; refine ArrL.buildLg (by rfl) rfl rfl (HZ.out _) ?_))
    go_ret
    exact ⟨rfl, X.out⟩
  · have CK1 := CK.out
    rw [decide_eq_true h0] at CK1
    replace CK1 := Lib.hid CK1
    have H0 := Lib.hid h0
    clear h0 CK
    go_wp2_with (first | (show wpList _ _ _ (⟨_, Op.load _ (.tmp 1), _, _, _, _⟩ :: _) _ _; refine Arr.loadL P1.out rfl 23 (.tmp 1) rfl rfl num_u rfl num_size N0.out ?_))
    refine (CK1.out _).mono ?_
    rintro e v5 ⟨rfl, b5⟩
    try have htv5 : FieldWW.Tabs v5 := FieldWW.Tabs.below (by assumption) b5
    replace P1 := Lib.hid (P1.out.below b5 P1.out.lt)
    replace P3 := Lib.hid (P3.out.below b5 P3.out.lt)
    replace P5 := Lib.hid (P5.out.below b5 P5.out.lt)
    replace X := Lib.hid (X.out.trans (b5.mono X.out.size))
    clear b5
    clear CK1
    go_wp2_with (first | (show wpList _ _ _ (⟨_, Op.load _ (.tmp 1), _, _, _, _⟩ :: _) _ _; refine Arr.loadL P1.out rfl 23 (.tmp 1) rfl rfl num_u rfl num_size N0.out ?_))
    refine (kbig_any l0 L0.out _).mono ?_
    rintro e v6 ⟨gx, rfl, hgx, ix, b6⟩
    try have htv6 : FieldWW.Tabs v6 := FieldWW.Tabs.below (by assumption) b6
    replace P1 := Lib.hid (P1.out.below b6 P1.out.lt)
    replace P3 := Lib.hid (P3.out.below b6 P3.out.lt)
    replace P5 := Lib.hid (P5.out.below b6 P5.out.lt)
    replace X := Lib.hid (X.out.trans (b6.mono X.out.size))
    clear b6
    have IX := Lib.hid ix
    clear ix hgx
    have CSg := sign_any gx _ v6 IX.out
    have BX := Lib.hid (nat_abs_lt (Nat.lt_trans H0.out P_big))
    by_cases hz : leN l0 = 0
    · have e1 : (i, ei) = (zeros, 3) := HI.out.symm.trans (invM_zero H0.out hz)
      simp only [Prod.mk.injEq] at e1
      obtain ⟨rfl, rfl⟩ := e1
      rw [if_pos (show (leN l0 : Int) = 0 by omega)] at CSg
      replace CSg := Lib.hid CSg
      have HZ := Lib.hid znum
      have eqz := fun V => eqn_same zeros rfl V
      clear hz HI LI
      go_wp2_with (fail)
      refine (CSg.out).mono ?_
      rintro e v7 ⟨rfl, b7⟩
      try have htv7 : FieldWW.Tabs v7 := FieldWW.Tabs.below (by assumption) b7
      replace P1 := Lib.hid (P1.out.below b7 P1.out.lt)
      replace P3 := Lib.hid (P3.out.below b7 P3.out.lt)
      replace P5 := Lib.hid (P5.out.below b7 P5.out.lt)
      replace IX := Lib.hid (intV_below IX.out b7)
      replace X := Lib.hid (X.out.trans (b7.mono X.out.size))
      clear b7
      clear CSg
      go_upto_region 11 with (first | (show wpList _ _ _ (⟨_, Op.load _ (.tmp 3), _, _, _, _⟩ :: _) _ _; refine ArrL.loadLg P3.out (by rfl) 23 (.tmp 3) rfl rfl num_u rfl num_size NI.out ?_) | (show wpList _ _ _ (⟨_, Op.build _ _, _, _, _, _⟩ :: _) _ _; refine ArrL.buildLg (by rfl) rfl rfl (HZ.out _) ?_))
      clear HZ eqz
      have CRo := kroot_any gx (leN l0) v7 IX.out H0.out
      rw [show el (leN l0) = ofL l0 from rfl] at CRo
      cases hro : rootF (ofL l0) with
      | some q =>
        rw [hro] at CRo
        replace CRo := Lib.hid (show Calls _ _ _ _ (FreshV _ _) from CRo)
        have e2 : (r, er) = (toL q, 0) := HR.out.symm.trans (rootM_some H0.out hro)
        simp only [Prod.mk.injEq] at e2
        obtain ⟨hre, rfl⟩ := e2
        have HQ := Lib.hid (show ln ((q.val : Int) % (P : Int)).toNat = r by rw [hre]; exact knum_val q)
        have BQ := Lib.hid (nat_abs_lt (Nat.lt_trans q.isLt P_big))
        clear hro HR hre
        go_wp2_with (fail)
        refine (CRo.out).mono ?_
        rintro e v8 ⟨gq, rfl, -, iq, b8⟩
        try have htv8 : FieldWW.Tabs v8 := FieldWW.Tabs.below (by assumption) b8
        replace P1 := Lib.hid (P1.out.below b8 P1.out.lt)
        replace P3 := Lib.hid (P3.out.below b8 P3.out.lt)
        replace P5 := Lib.hid (P5.out.below b8 P5.out.lt)
        replace IX := Lib.hid (intV_below IX.out b8)
        replace X := Lib.hid (X.out.trans (b8.mono X.out.size))
        clear b8
        have CN := Lib.hid (fun (V : World) (hV : Below v8.heap.size v8 V) => knum_any gq _ V (intV_below iq hV) BQ.out)
        rw [HQ.out] at CN
        clear CRo iq BQ HQ
        go_upto_region 13 with (fail)
        have eqr := fun x : Ab v8 => eqn_same r LR.out x.val
        have hab := ab v8
        refine wp_region_tree (.read 0 (.read 1 (.read 2 (.read 3 (.read 4 (.step 5 (.read 6 (.read 7 (.read 8 (.done)))))))))) (fun W => ∃ x : Ab v8, W = x.val) (by kernel_rfl) (by kernel_rfl) (by decide) (fun _ _ d _ _ h => by cases d <;> exact h) (Cl.of (Below.refl _ _).drew) ?_
        have x0 := Lib.hid ((Below.refl v8.heap.size v8).drew)
        try have htd : FieldWW.Tabs v8.drew := FieldWW.Tabs.below (by assumption) ((Below.refl v8.heap.size v8).drew)
        iterate 3 (refine tree_read rfl (fun K hK => ?_); go_simp; refine hK _ ?_; clear hK K)
        refine tree_read rfl (fun K hK => ?_)
        refine loadT (by rfl) (fun V (h : ∃ x : Ab v8, V = x.val) => P5.out.below (Cl.below h) P5.out.lt) 23 (.tmp 5) rfl rfl num_u rfl num_size NR.out ?_
        refine hK _ ?_
        clear hK K
        iterate 1 (refine tree_read rfl (fun K hK => ?_); go_simp; refine hK _ ?_; clear hK K)
        refine tree_step rfl (Cl.of x0.out) (fun K hK => ?_)
        go_simp
        refine (CN.out _ x0.out).mono ?_
        rintro e u9 ⟨rfl, b1⟩
        try have htu9 : FieldWW.Tabs u9 := FieldWW.Tabs.below (by assumption) b1
        have x1 := Lib.hid (x0.out.trans (b1.mono x0.out.size))
        refine hK _ _ ⟨Cl.of x1.out, ?_⟩
        clear hK K
        clear b1
        iterate 3 (refine tree_read rfl (fun K hK => ?_); go_simp; refine hK _ ?_; clear hK K)
        refine tree_done ?_
        replace P1 := Lib.hid (P1.out.below x1.out P1.out.lt)
        replace P3 := Lib.hid (P3.out.below x1.out P3.out.lt)
        replace P5 := Lib.hid (P5.out.below x1.out P5.out.lt)
        replace IX := Lib.hid (intV_below IX.out x1.out)
        replace X := Lib.hid (X.out.trans (x1.out.mono X.out.size))
        clear hab x0 x1
        clear eqr CN
        go_wp2
        go_ret
        exact ⟨rfl, X.out⟩
      | none =>
        rw [hro] at CRo
        replace CRo := Lib.hid (show Calls _ _ _ _ (fun e w' => e = .returned (.pointer none) ∧ Below _ _ w') from CRo)
        have e2 : (r, er) = (zeros, 3) := HR.out.symm.trans (rootM_none H0.out hro)
        simp only [Prod.mk.injEq] at e2
        obtain ⟨rfl, rfl⟩ := e2
        have HZ := Lib.hid znum
        have eqz := fun V => eqn_same zeros rfl V
        clear hro HR
        go_wp2_with (fail)
        refine (CRo.out).mono ?_
        rintro e v8 ⟨rfl, b8⟩
        try have htv8 : FieldWW.Tabs v8 := FieldWW.Tabs.below (by assumption) b8
        replace P1 := Lib.hid (P1.out.below b8 P1.out.lt)
        replace P3 := Lib.hid (P3.out.below b8 P3.out.lt)
        replace P5 := Lib.hid (P5.out.below b8 P5.out.lt)
        replace IX := Lib.hid (intV_below IX.out b8)
        replace X := Lib.hid (X.out.trans (b8.mono X.out.size))
        clear b8
        clear CRo
        go_wp2_with (first | (show wpList _ _ _ (⟨_, Op.load _ (.tmp 5), _, _, _, _⟩ :: _) _ _; refine ArrL.loadLg P5.out (by rfl) 23 (.tmp 5) rfl rfl num_u rfl num_size NR.out ?_) | (show wpList _ _ _ (⟨_, Op.build _ _, _, _, _, _⟩ :: _) _ _; refine ArrL.buildLg (by rfl) rfl rfl (HZ.out _) ?_))
        go_ret
        exact ⟨rfl, X.out⟩
    · have e1 : (i, ei) = (toL (inv (ofL l0)), 0) := HI.out.symm.trans (invM_ok H0.out hz)
      simp only [Prod.mk.injEq] at e1
      obtain ⟨hie, rfl⟩ := e1
      rw [if_neg (show ¬ (leN l0 : Int) = 0 by omega), if_neg (show ¬ (leN l0 : Int) < 0 by omega)] at CSg
      replace CSg := Lib.hid CSg
      have HIe := Lib.hid (show ln (((leN l0 ^ (P - 2) % P : Nat) : Int) % (P : Int)).toNat = i by rw [hie, ← inv_nat H0.out]; exact knum_val _)
      clear hz HI hie
      go_wp2_with (fail)
      refine (CSg.out).mono ?_
      rintro e v7 ⟨rfl, b7⟩
      try have htv7 : FieldWW.Tabs v7 := FieldWW.Tabs.below (by assumption) b7
      replace P1 := Lib.hid (P1.out.below b7 P1.out.lt)
      replace P3 := Lib.hid (P3.out.below b7 P3.out.lt)
      replace P5 := Lib.hid (P5.out.below b7 P5.out.lt)
      replace IX := Lib.hid (intV_below IX.out b7)
      replace X := Lib.hid (X.out.trans (b7.mono X.out.size))
      clear b7
      clear CSg
      go_upto_region 9 with (fail)
      have CV := Lib.hid (fun (V : World) (hV : Below v7.heap.size v7 V) => kinv_any gx (leN l0) V (intV_below IX.out hV) H0.out)
      have eqi := fun x : Ab v7 => eqn_same i LI.out x.val
      have hab := ab v7
      refine wp_region_tree (.read 0 (.read 1 (.read 2 (.read 3 (.read 4 (.step 5 (.step 6 (.read 7 (.read 8 (.done)))))))))) (fun W => ∃ x : Ab v7, W = x.val) (by kernel_rfl) (by kernel_rfl) (by decide) (fun _ _ d _ _ h => by cases d <;> exact h) (Cl.of (Below.refl _ _).drew) ?_
      have x0 := Lib.hid ((Below.refl v7.heap.size v7).drew)
      try have htd : FieldWW.Tabs v7.drew := FieldWW.Tabs.below (by assumption) ((Below.refl v7.heap.size v7).drew)
      iterate 3 (refine tree_read rfl (fun K hK => ?_); go_simp; refine hK _ ?_; clear hK K)
      refine tree_read rfl (fun K hK => ?_)
      refine loadT (by rfl) (fun V (h : ∃ x : Ab v7, V = x.val) => P3.out.below (Cl.below h) P3.out.lt) 23 (.tmp 3) rfl rfl num_u rfl num_size NI.out ?_
      refine hK _ ?_
      clear hK K
      iterate 1 (refine tree_read rfl (fun K hK => ?_); go_simp; refine hK _ ?_; clear hK K)
      refine tree_step rfl (Cl.of x0.out) (fun K hK => ?_)
      go_simp
      refine (CV.out _ x0.out).mono ?_
      rintro e u7 ⟨gv, rfl, -, iv, b1⟩
      try have htu7 : FieldWW.Tabs u7 := FieldWW.Tabs.below (by assumption) b1
      have x1 := Lib.hid (x0.out.trans (b1.mono x0.out.size))
      refine hK _ _ ⟨Cl.of x1.out, ?_⟩
      clear hK K
      have CN := knum_any gv _ u7 iv (nat_abs_lt (Nat.lt_trans (Nat.mod_lt _ P_pos) P_big))
      rw [HIe.out] at CN
      replace CN := Lib.hid CN
      clear CV iv b1
      refine tree_step rfl (Cl.of x1.out) (fun K hK => ?_)
      go_simp
      refine (CN.out).mono ?_
      rintro e u8 ⟨rfl, b2⟩
      try have htu8 : FieldWW.Tabs u8 := FieldWW.Tabs.below (by assumption) b2
      have x2 := Lib.hid (x1.out.trans (b2.mono x1.out.size))
      refine hK _ _ ⟨Cl.of x2.out, ?_⟩
      clear hK K
      clear CN b2
      iterate 2 (refine tree_read rfl (fun K hK => ?_); go_simp; refine hK _ ?_; clear hK K)
      refine tree_done ?_
      replace P1 := Lib.hid (P1.out.below x2.out P1.out.lt)
      replace P3 := Lib.hid (P3.out.below x2.out P3.out.lt)
      replace P5 := Lib.hid (P5.out.below x2.out P5.out.lt)
      replace IX := Lib.hid (intV_below IX.out x2.out)
      replace X := Lib.hid (X.out.trans (x2.out.mono X.out.size))
      clear hab x0 x1 x2
      clear eqi HIe
      go_upto_region 11 with (fail)
      have CRo := kroot_any gx (leN l0) u8 IX.out H0.out
      rw [show el (leN l0) = ofL l0 from rfl] at CRo
      cases hro : rootF (ofL l0) with
      | some q =>
        rw [hro] at CRo
        replace CRo := Lib.hid (show Calls _ _ _ _ (FreshV _ _) from CRo)
        have e2 : (r, er) = (toL q, 0) := HR.out.symm.trans (rootM_some H0.out hro)
        simp only [Prod.mk.injEq] at e2
        obtain ⟨hre, rfl⟩ := e2
        have HQ := Lib.hid (show ln ((q.val : Int) % (P : Int)).toNat = r by rw [hre]; exact knum_val q)
        have BQ := Lib.hid (nat_abs_lt (Nat.lt_trans q.isLt P_big))
        clear hro HR hre
        go_wp2_with (fail)
        refine (CRo.out).mono ?_
        rintro e v8 ⟨gq, rfl, -, iq, b8⟩
        try have htv8 : FieldWW.Tabs v8 := FieldWW.Tabs.below (by assumption) b8
        replace P1 := Lib.hid (P1.out.below b8 P1.out.lt)
        replace P3 := Lib.hid (P3.out.below b8 P3.out.lt)
        replace P5 := Lib.hid (P5.out.below b8 P5.out.lt)
        replace IX := Lib.hid (intV_below IX.out b8)
        replace X := Lib.hid (X.out.trans (b8.mono X.out.size))
        clear b8
        have CN := Lib.hid (fun (V : World) (hV : Below v8.heap.size v8 V) => knum_any gq _ V (intV_below iq hV) BQ.out)
        rw [HQ.out] at CN
        clear CRo iq BQ HQ
        go_upto_region 13 with (fail)
        have eqr := fun x : Ab v8 => eqn_same r LR.out x.val
        have hab := ab v8
        refine wp_region_tree (.read 0 (.read 1 (.read 2 (.read 3 (.read 4 (.step 5 (.read 6 (.read 7 (.read 8 (.done)))))))))) (fun W => ∃ x : Ab v8, W = x.val) (by kernel_rfl) (by kernel_rfl) (by decide) (fun _ _ d _ _ h => by cases d <;> exact h) (Cl.of (Below.refl _ _).drew) ?_
        have x0 := Lib.hid ((Below.refl v8.heap.size v8).drew)
        try have htd : FieldWW.Tabs v8.drew := FieldWW.Tabs.below (by assumption) ((Below.refl v8.heap.size v8).drew)
        iterate 3 (refine tree_read rfl (fun K hK => ?_); go_simp; refine hK _ ?_; clear hK K)
        refine tree_read rfl (fun K hK => ?_)
        refine loadT (by rfl) (fun V (h : ∃ x : Ab v8, V = x.val) => P5.out.below (Cl.below h) P5.out.lt) 23 (.tmp 5) rfl rfl num_u rfl num_size NR.out ?_
        refine hK _ ?_
        clear hK K
        iterate 1 (refine tree_read rfl (fun K hK => ?_); go_simp; refine hK _ ?_; clear hK K)
        refine tree_step rfl (Cl.of x0.out) (fun K hK => ?_)
        go_simp
        refine (CN.out _ x0.out).mono ?_
        rintro e u9 ⟨rfl, b1⟩
        try have htu9 : FieldWW.Tabs u9 := FieldWW.Tabs.below (by assumption) b1
        have x1 := Lib.hid (x0.out.trans (b1.mono x0.out.size))
        refine hK _ _ ⟨Cl.of x1.out, ?_⟩
        clear hK K
        clear b1
        iterate 3 (refine tree_read rfl (fun K hK => ?_); go_simp; refine hK _ ?_; clear hK K)
        refine tree_done ?_
        replace P1 := Lib.hid (P1.out.below x1.out P1.out.lt)
        replace P3 := Lib.hid (P3.out.below x1.out P3.out.lt)
        replace P5 := Lib.hid (P5.out.below x1.out P5.out.lt)
        replace IX := Lib.hid (intV_below IX.out x1.out)
        replace X := Lib.hid (X.out.trans (x1.out.mono X.out.size))
        clear hab x0 x1
        clear eqr CN
        go_wp2
        go_ret
        exact ⟨rfl, X.out⟩
      | none =>
        rw [hro] at CRo
        replace CRo := Lib.hid (show Calls _ _ _ _ (fun e w' => e = .returned (.pointer none) ∧ Below _ _ w') from CRo)
        have e2 : (r, er) = (zeros, 3) := HR.out.symm.trans (rootM_none H0.out hro)
        simp only [Prod.mk.injEq] at e2
        obtain ⟨rfl, rfl⟩ := e2
        have HZ := Lib.hid znum
        have eqz := fun V => eqn_same zeros rfl V
        clear hro HR
        go_wp2_with (fail)
        refine (CRo.out).mono ?_
        rintro e v8 ⟨rfl, b8⟩
        try have htv8 : FieldWW.Tabs v8 := FieldWW.Tabs.below (by assumption) b8
        replace P1 := Lib.hid (P1.out.below b8 P1.out.lt)
        replace P3 := Lib.hid (P3.out.below b8 P3.out.lt)
        replace P5 := Lib.hid (P5.out.below b8 P5.out.lt)
        replace IX := Lib.hid (intV_below IX.out b8)
        replace X := Lib.hid (X.out.trans (b8.mono X.out.size))
        clear b8
        clear CRo
        go_wp2_with (first | (show wpList _ _ _ (⟨_, Op.load _ (.tmp 5), _, _, _, _⟩ :: _) _ _; refine ArrL.loadLg P5.out (by rfl) 23 (.tmp 5) rfl rfl num_u rfl num_size NR.out ?_) | (show wpList _ _ _ (⟨_, Op.build _ _, _, _, _, _⟩ :: _) _ _; refine ArrL.buildLg (by rfl) rfl rfl (HZ.out _) ?_))
        go_ret
        exact ⟨rfl, X.out⟩
end Go.Proofs.YtfngomlknhappaaDoor.FieldRootsL
