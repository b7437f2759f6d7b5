/-
  The walk of ticketwardlaw.FieldReckons: it returns true and writes nothing that was there. Conditions: none.
-/
import Derived.Test.YtfngomlknhappaaDoorFieldSum
import Derived.Test.YtfngomlknhappaaDoorKo
import Derived.Test.YtfngomlknhappaaDoorArrT
import Derived.BigGuard
import Derived.BigQuiet
namespace Go.Proofs.YtfngomlknhappaaDoor.FieldReckonsL
open Go.RowKit BytesW ArrW ArrG ArrL ArrT BigW BigNewW BigMulW BigNegW BigAddW BigSubW FieldM NumA NumF FieldTW FieldSumW KBigW

theorem knum_toL (z : Int) (x : F) (h : z % (P : Int) = (x.val : Int)) : ln (z % (P : Int)).toNat = toL x := by rw [h, Int.toNat_natCast]; rfl

set_option maxHeartbeats 4000000 in
set_option maxRecDepth 100000 in
theorem walk (l0 : List UInt8) (hl0 : l0.length = 32) (l1 : List UInt8) (hl1 : l1.length = 32) (w : World) (hL : FieldWW.TabP w) : Calls Tryd.prog 3 #[.agg (Lib.byteCells l0).toArray, .agg (Lib.byteCells l1).toArray] w fun e w' => e = .returned (.bool true) ∧ Below w.heap.size w w' := by
  have L0 := Lib.hid hl0
  have L1 := Lib.hid hl1
  have N0 := Lib.hid (bc32 hl0)
  have N1 := Lib.hid (bc32 hl1)
  obtain ⟨s, es, hs⟩ : ∃ s es, addM l0 l1 = (s, es) := ⟨_, _, rfl⟩
  obtain ⟨d, ed, hd⟩ : ∃ s es, subM l0 l1 = (s, es) := ⟨_, _, rfl⟩
  obtain ⟨m, em, hm⟩ : ∃ s es, mulM l0 l1 = (s, es) := ⟨_, _, rfl⟩
  have CA := fun V (hV : FieldWW.TabP V) => fadd_any l0 l1 hl0 hl1 V hV
  have CS := fun V (hV : FieldWW.TabP V) => fsub_any l0 l1 hl0 hl1 V hV
  have CM := fun V (hV : FieldWW.TabP V) => fmul_any l0 l1 hl0 hl1 V hV
  rw [hs] at CA
  rw [hd] at CS
  rw [hm] at CM
  have lS := binM_len (· + ·) l0 l1
  rw [show binM (· + ·) l0 l1 = (s, es) from hs] at lS
  have lD := binM_len (· - ·) l0 l1
  rw [show binM (· - ·) l0 l1 = (d, ed) from hd] at lD
  have lM := binM_len (· * ·) l0 l1
  rw [show binM (· * ·) l0 l1 = (m, em) from hm] at lM
  have NS := Lib.hid (bc32 lS)
  have ND := Lib.hid (bc32 lD)
  have NM := Lib.hid (bc32 lM)
  replace CA := Lib.hid CA
  replace CS := Lib.hid CS
  replace CM := Lib.hid CM
  have HS := Lib.hid hs
  have HD := Lib.hid hd
  have HM := Lib.hid hm
  have LS := Lib.hid lS
  have LD := Lib.hid lD
  have LM := Lib.hid lM
  clear hs hd hm lS lD lM hl0 hl1
  go_enter Tryd.func3, Tryd.ntmps3
  go_upto_region 1 with (fail)
  generalize hW : World.alloc _ _ = v0
  obtain ⟨a0, a1, b0, z0⟩ := start2 hW
  try have htv0 : FieldWW.TabP v0 := FieldWW.TabP.below (by assumption) b0
  have X := Lib.hid b0
  obtain ⟨g2, hg2⟩ : ∃ g, w.heap.size = g := ⟨_, rfl⟩
  obtain ⟨g3, hg3⟩ : ∃ g, g2 + 1 = g := ⟨_, rfl⟩
  rw [hg2] at a0
  rw [hg2, hg3] at a1
  simp only [hg2, hg3]
  have P2 : Hid (Arr v0 g2 23 (Lib.byteCells l0)) := Lib.hid a0
  have P3 : Hid (Arr v0 g3 23 (Lib.byteCells l1)) := Lib.hid a1
  clear hW a0 a1 b0 z0 hg2 hg3
  go_wp2_with (first | (show wpList _ _ _ (⟨_, Op.load _ (.tmp 2), _, _, _, _⟩ :: _) _ _; refine Arr.loadL P2.out rfl 23 (.tmp 2) rfl rfl num_u rfl num_size N0.out ?_) | (show wpList _ _ _ (⟨_, Op.load _ (.tmp 3), _, _, _, _⟩ :: _) _ _; refine Arr.loadL P3.out rfl 23 (.tmp 3) rfl rfl num_u rfl num_size N1.out ?_))
  refine (CA.out _ (by assumption)).mono ?_
  rintro e v1 ⟨rfl, b1⟩
  try have htv1 : FieldWW.TabP v1 := FieldWW.TabP.below (by assumption) b1
  replace P2 := Lib.hid (P2.out.below b1 P2.out.lt)
  replace P3 := Lib.hid (P3.out.below b1 P3.out.lt)
  replace X := Lib.hid (X.out.trans (b1.mono X.out.size))
  clear b1
  go_upto_region 2 with (show wpList _ _ _ (⟨_, Op.store _ _ _, _, _, _, _⟩ :: _) _ _; refine Arr.storeL (Arr.new v1 _ _) rfl 23 (.tmp 5) (.tmp 17) rfl rfl (Lib.byteCells s) rfl num_size (by rfl) NS.out (bytes_one _) ?_)
  generalize hw : World.setRow _ _ _ = v2
  obtain ⟨p2, b2, z2⟩ := filled hw
  try have htv2 : FieldWW.TabP v2 := FieldWW.TabP.below (by assumption) b2
  replace P2 := Lib.hid (P2.out.below b2 P2.out.lt)
  replace P3 := Lib.hid (P3.out.below b2 P3.out.lt)
  replace X := Lib.hid (X.out.trans (b2.mono X.out.size))
  obtain ⟨g5, hg5⟩ : ∃ g, v1.heap.size = g := ⟨_, rfl⟩
  rw [hg5] at p2 ⊢
  have P5 := Lib.hid p2
  clear p2 b2 z2 hw hg5
  go_wp2_with (first | (show wpList _ _ _ (⟨_, Op.load _ (.tmp 2), _, _, _, _⟩ :: _) _ _; refine Arr.loadL P2.out rfl 23 (.tmp 2) rfl rfl num_u rfl num_size N0.out ?_) | (show wpList _ _ _ (⟨_, Op.load _ (.tmp 3), _, _, _, _⟩ :: _) _ _; refine Arr.loadL P3.out rfl 23 (.tmp 3) rfl rfl num_u rfl num_size N1.out ?_))
  refine (CS.out _ (by assumption)).mono ?_
  rintro e v3 ⟨rfl, b3⟩
  try have htv3 : FieldWW.TabP v3 := FieldWW.TabP.below (by assumption) b3
  replace P2 := Lib.hid (P2.out.below b3 P2.out.lt)
  replace P3 := Lib.hid (P3.out.below b3 P3.out.lt)
  replace P5 := Lib.hid (P5.out.below b3 P5.out.lt)
  replace X := Lib.hid (X.out.trans (b3.mono X.out.size))
  clear b3
  go_upto_region 3 with (show wpList _ _ _ (⟨_, Op.store _ _ _, _, _, _, _⟩ :: _) _ _; refine Arr.storeL (Arr.new v3 _ _) rfl 23 (.tmp 7) (.tmp 23) rfl rfl (Lib.byteCells d) rfl num_size (by rfl) ND.out (bytes_one _) ?_)
  generalize hw : World.setRow _ _ _ = v4
  obtain ⟨p4, b4, z4⟩ := filled hw
  try have htv4 : FieldWW.TabP v4 := FieldWW.TabP.below (by assumption) b4
  replace P2 := Lib.hid (P2.out.below b4 P2.out.lt)
  replace P3 := Lib.hid (P3.out.below b4 P3.out.lt)
  replace P5 := Lib.hid (P5.out.below b4 P5.out.lt)
  replace X := Lib.hid (X.out.trans (b4.mono X.out.size))
  obtain ⟨g7, hg7⟩ : ∃ g, v3.heap.size = g := ⟨_, rfl⟩
  rw [hg7] at p4 ⊢
  have P7 := Lib.hid p4
  clear p4 b4 z4 hw hg7
  go_wp2_with (first | (show wpList _ _ _ (⟨_, Op.load _ (.tmp 2), _, _, _, _⟩ :: _) _ _; refine Arr.loadL P2.out rfl 23 (.tmp 2) rfl rfl num_u rfl num_size N0.out ?_) | (show wpList _ _ _ (⟨_, Op.load _ (.tmp 3), _, _, _, _⟩ :: _) _ _; refine Arr.loadL P3.out rfl 23 (.tmp 3) rfl rfl num_u rfl num_size N1.out ?_))
  refine (CM.out _ (by assumption)).mono ?_
  rintro e v5 ⟨rfl, b5⟩
  try have htv5 : FieldWW.TabP v5 := FieldWW.TabP.below (by assumption) b5
  replace P2 := Lib.hid (P2.out.below b5 P2.out.lt)
  replace P3 := Lib.hid (P3.out.below b5 P3.out.lt)
  replace P5 := Lib.hid (P5.out.below b5 P5.out.lt)
  replace P7 := Lib.hid (P7.out.below b5 P7.out.lt)
  replace X := Lib.hid (X.out.trans (b5.mono X.out.size))
  clear b5
  go_upto_region 4 with (show wpList _ _ _ (⟨_, Op.store _ _ _, _, _, _, _⟩ :: _) _ _; refine Arr.storeL (Arr.new v5 _ _) rfl 23 (.tmp 9) (.tmp 29) rfl rfl (Lib.byteCells m) rfl num_size (by rfl) NM.out (bytes_one _) ?_)
  generalize hw : World.setRow _ _ _ = v6
  obtain ⟨p6, b6, z6⟩ := filled hw
  try have htv6 : FieldWW.TabP v6 := FieldWW.TabP.below (by assumption) b6
  replace P2 := Lib.hid (P2.out.below b6 P2.out.lt)
  replace P3 := Lib.hid (P3.out.below b6 P3.out.lt)
  replace P5 := Lib.hid (P5.out.below b6 P5.out.lt)
  replace P7 := Lib.hid (P7.out.below b6 P7.out.lt)
  replace X := Lib.hid (X.out.trans (b6.mono X.out.size))
  obtain ⟨g9, hg9⟩ : ∃ g, v5.heap.size = g := ⟨_, rfl⟩
  rw [hg9] at p6 ⊢
  have P9 := Lib.hid p6
  clear p6 b6 z6 hw hg9
  have CR := Lib.hid (fun V (hV : FieldWW.TabP V) => fright_any l0 L0.out V hV)
  have CK := Lib.hid (fun (V : World) => kright_any l0 L0.out V)
  have CK1 := Lib.hid (fun (V : World) => kright_any l1 L1.out V)
  clear CA CS CM
  have hab := ab v6
  refine wp_region_tree (.read 0 (.read 2 (.step 1 (.step 3 (.read 4 .done))))) (fun W => ∃ x : Ab v6, W = x.val) (by kernel_rfl) (by kernel_rfl) (by decide) (fun _ _ d _ _ h => by cases d <;> exact h) (Cl.of (Below.refl _ _).drew) ?_
  refine tree_read rfl (fun K hK => ?_)
  refine loadT (by rfl) (fun V (h : ∃ x : Ab v6, V = x.val) => P2.out.below (Cl.below h) P2.out.lt) 23 (.tmp 2) rfl rfl num_u rfl num_size N0.out ?_
  refine hK _ ?_
  clear hK K
  refine tree_read rfl (fun K hK => ?_)
  refine loadT (by rfl) (fun V (h : ∃ x : Ab v6, V = x.val) => P2.out.below (Cl.below h) P2.out.lt) 23 (.tmp 2) rfl rfl num_u rfl num_size N0.out ?_
  refine hK _ ?_
  clear hK K
  have x0 := Lib.hid ((Below.refl v6.heap.size v6).drew)
  try have htd : FieldWW.TabP v6.drew := FieldWW.TabP.below (by assumption) ((Below.refl v6.heap.size v6).drew)
  refine tree_step rfl (Cl.of x0.out) (fun K hK => ?_)
  go_simp
  refine (CR.out _ (by assumption)).mono ?_
  rintro e u1 ⟨rfl, b1⟩
  try have htu1 : FieldWW.TabP u1 := FieldWW.TabP.below (by assumption) b1
  have x1 := Lib.hid (x0.out.trans (b1.mono x0.out.size))
  refine hK _ _ ⟨Cl.of x1.out, ?_⟩
  clear hK K b1
  refine tree_step rfl (Cl.of x1.out) (fun K hK => ?_)
  go_simp
  refine (CK.out _).mono ?_
  rintro e u2 ⟨rfl, b2⟩
  try have htu2 : FieldWW.TabP u2 := FieldWW.TabP.below (by assumption) b2
  have x2 := x1.out.trans (b2.mono x1.out.size)
  refine hK _ _ ⟨Cl.of x2, ?_⟩
  clear hK K b2 x1 x0
  refine tree_read rfl (fun K hK => ?_)
  go_simp
  refine hK _ ?_
  clear hK K
  refine tree_done ?_
  clear hab
  replace P2 := Lib.hid (P2.out.below x2 P2.out.lt)
  replace P3 := Lib.hid (P3.out.below x2 P3.out.lt)
  replace P5 := Lib.hid (P5.out.below x2 P5.out.lt)
  replace P7 := Lib.hid (P7.out.below x2 P7.out.lt)
  replace P9 := Lib.hid (P9.out.below x2 P9.out.lt)
  replace X := Lib.hid (X.out.trans (x2.mono X.out.size))
  clear x2 CR
  by_cases hr : leN l0 < P ∧ leN l1 < P
  · obtain ⟨h0, h1⟩ := hr
    have e1 : (s, es) = (toL (ofL l0 + ofL l1), 0) := HS.out.symm.trans (binM_ok h0 h1)
    have e2 : (d, ed) = (toL (ofL l0 - ofL l1), 0) := HD.out.symm.trans (binM_ok h0 h1)
    have e3 : (m, em) = (toL (ofL l0 * ofL l1), 0) := HM.out.symm.trans (binM_ok h0 h1)
    simp only [Prod.mk.injEq] at e1 e2 e3
    obtain ⟨hse, rfl⟩ := e1
    obtain ⟨hde, rfl⟩ := e2
    obtain ⟨hme, rfl⟩ := e3
    have HSe := Lib.hid (show ln (((leN l0 : Int) + (leN l1 : Int)) % (P : Int)).toNat = s by rw [hse]; exact knum_toL _ _ (by rw [show ((leN l0 : Int) + (leN l1 : Int)) % (P : Int) = (((leN l0 + leN l1) % P : Nat) : Int) by push_cast; rfl, show ofL l0 + ofL l1 = el (leN l0 + leN l1) from el_add _ _]; rfl))
    have HDe := Lib.hid (show ln (((leN l0 : Int) - (leN l1 : Int)) % (P : Int)).toNat = d by rw [hde]; exact knum_toL _ _ (el_sub h0 h1).symm)
    have HMe := Lib.hid (show ln (((leN l0 : Int) * (leN l1 : Int)) % (P : Int)).toNat = m by rw [hme]; exact knum_toL _ _ (by rw [int_mod, show ofL l0 * ofL l1 = el (leN l0 * leN l1) from el_mul _ _]; rfl))
    have B0 := Lib.hid (nat_abs_lt (Nat.lt_trans h0 P_big))
    have B1 := Lib.hid (nat_abs_lt (Nat.lt_trans h1 P_big))
    have BA := Lib.hid (show ((leN l0 : Int) + (leN l1 : Int)).natAbs < BIG by
      have : P + P < BIG := by decide +kernel
      omega)
    have BS := Lib.hid (show ((leN l0 : Int) - (leN l1 : Int)).natAbs < BIG by
      have : P + P < BIG := by decide +kernel
      omega)
    have BM := Lib.hid (show ((leN l0 : Int) * (leN l1 : Int)).natAbs < BIG by rw [← Int.natCast_mul]; exact nat_abs_lt (P_sq _ _ h0 h1))
    have d0 : decide (leN l0 < P) = true := decide_eq_true h0
    have d1 : decide (leN l1 < P) = true := decide_eq_true h1
    rw [d0] at CK
    rw [d1] at CK1
    clear h0 h1 hse hde hme d0 d1 HS HD HM
    go_wp2_with (first | (show wpList _ _ _ (⟨_, Op.load _ (.tmp 2), _, _, _, _⟩ :: _) _ _; refine Arr.loadL P2.out rfl 23 (.tmp 2) rfl rfl num_u rfl num_size N0.out ?_))
    refine (CK.out _).mono ?_
    rintro e v7 ⟨rfl, b7⟩
    try have htv7 : FieldWW.TabP v7 := FieldWW.TabP.below (by assumption) b7
    replace P2 := Lib.hid (P2.out.below b7 P2.out.lt)
    replace P3 := Lib.hid (P3.out.below b7 P3.out.lt)
    replace P5 := Lib.hid (P5.out.below b7 P5.out.lt)
    replace P7 := Lib.hid (P7.out.below b7 P7.out.lt)
    replace P9 := Lib.hid (P9.out.below b7 P9.out.lt)
    replace X := Lib.hid (X.out.trans (b7.mono X.out.size))
    clear b7
    go_wp2_with (first | (show wpList _ _ _ (⟨_, Op.load _ (.tmp 3), _, _, _, _⟩ :: _) _ _; refine ArrL.loadLg P3.out (by rfl) 23 (.tmp 3) rfl rfl num_u rfl num_size N1.out ?_))
    refine (CK1.out _).mono ?_
    rintro e v8 ⟨rfl, b8⟩
    try have htv8 : FieldWW.TabP v8 := FieldWW.TabP.below (by assumption) b8
    replace P2 := Lib.hid (P2.out.below b8 P2.out.lt)
    replace P3 := Lib.hid (P3.out.below b8 P3.out.lt)
    replace P5 := Lib.hid (P5.out.below b8 P5.out.lt)
    replace P7 := Lib.hid (P7.out.below b8 P7.out.lt)
    replace P9 := Lib.hid (P9.out.below b8 P9.out.lt)
    replace X := Lib.hid (X.out.trans (b8.mono X.out.size))
    clear b8
    go_upto_region 8 with (fail)
    have hab := ab v8
    refine wp_region_tree (.read 0 (.read 2 (.step 1 (.step 3 (.read 4 (.read 5 .done)))))) (fun W => ∃ x : Ab v8, W = x.val) (by kernel_rfl) (by kernel_rfl) (by decide) (fun _ _ d _ _ h => by cases d <;> exact h) (Cl.of (Below.refl _ _).drew) ?_
    refine tree_read rfl (fun K hK => ?_)
    refine loadT (by rfl) (fun V (h : ∃ x : Ab v8, V = x.val) => P2.out.below (Cl.below h) P2.out.lt) 23 (.tmp 2) rfl rfl num_u rfl num_size N0.out ?_
    refine hK _ ?_
    clear hK K
    refine tree_read rfl (fun K hK => ?_)
    refine loadT (by rfl) (fun V (h : ∃ x : Ab v8, V = x.val) => P3.out.below (Cl.below h) P3.out.lt) 23 (.tmp 3) rfl rfl num_u rfl num_size N1.out ?_
    refine hK _ ?_
    clear hK K
    have x0 := Lib.hid ((Below.refl v8.heap.size v8).drew)
    try have htd : FieldWW.TabP v8.drew := FieldWW.TabP.below (by assumption) ((Below.refl v8.heap.size v8).drew)
    refine tree_step rfl (Cl.of x0.out) (fun K hK => ?_)
    go_simp
    refine (kbig_any l0 L0.out _).mono ?_
    rintro e u3 ⟨gx, rfl, -, ix, b1⟩
    try have htu3 : FieldWW.TabP u3 := FieldWW.TabP.below (by assumption) b1
    have x1 := Lib.hid (x0.out.trans (b1.mono x0.out.size))
    refine hK _ _ ⟨Cl.of x1.out, ?_⟩
    clear hK K
    have IX := Lib.hid ix
    clear ix b1
    refine tree_step rfl (Cl.of x1.out) (fun K hK => ?_)
    go_simp
    refine (kbig_any l1 L1.out _).mono ?_
    rintro e u4 ⟨gy, rfl, -, iy, b2⟩
    try have htu4 : FieldWW.TabP u4 := FieldWW.TabP.below (by assumption) b2
    have x2 := Lib.hid (x1.out.trans (b2.mono x1.out.size))
    refine hK _ _ ⟨Cl.of x2.out, ?_⟩
    clear hK K
    have IY := Lib.hid iy
    replace IX := Lib.hid (intV_below IX.out b2)
    clear iy b2
    iterate 2 (refine tree_read rfl (fun K hK => ?_); go_simp; refine hK _ ?_; clear hK K)
    refine tree_done ?_
    replace P2 := Lib.hid (P2.out.below x2.out P2.out.lt)
    replace P3 := Lib.hid (P3.out.below x2.out P3.out.lt)
    replace P5 := Lib.hid (P5.out.below x2.out P5.out.lt)
    replace P7 := Lib.hid (P7.out.below x2.out P7.out.lt)
    replace P9 := Lib.hid (P9.out.below x2.out P9.out.lt)
    replace X := Lib.hid (X.out.trans (x2.out.mono X.out.size))
    clear x0 x1 x2 hab
    go_upto_region 9 with (fail)
    have hab := ab u4
    have eqs := fun x : Ab u4 => eqn_same s LS.out x.val
    have eqd := fun x : Ab u4 => eqn_same d LD.out x.val
    have eqm := fun x : Ab u4 => eqn_same m LM.out x.val
    refine wp_region_tree (.read 0 (.read 1 (.read 2 (.read 3 (.read 4 (.read 5 (.read 6 (.read 7 (.read 8 (.read 9 (.read 10 (.read 11 (.read 13 (.read 14 (.step 12 (.step 15 (.step 16 (.read 17 (.read 18 (.read 19 (.read 20 (.read 22 (.read 23 (.step 21 (.step 24 (.step 25 (.read 26 (.read 27 (.read 28 (.read 29 (.read 31 (.read 32 (.step 30 (.step 33 (.step 34 (.read 35 (.read 36 (.read 37 .done)))))))))))))))))))))))))))))))))))))) (fun W => ∃ x : Ab u4, W = x.val) (by kernel_rfl) (by kernel_rfl) (by decide) (fun _ _ d _ _ h => by cases d <;> exact h) (Cl.of (Below.refl _ _).drew) ?_
    have x0 := Lib.hid ((Below.refl u4.heap.size u4).drew)
    try have htd : FieldWW.TabP u4.drew := FieldWW.TabP.below (by assumption) ((Below.refl u4.heap.size u4).drew)
    iterate 11 (refine tree_read rfl (fun K hK => ?_); go_simp; refine hK _ ?_; clear hK K)
    refine tree_read rfl (fun K hK => ?_)
    refine loadT (by rfl) (fun V (h : ∃ x : Ab u4, V = x.val) => P5.out.below (Cl.below h) P5.out.lt) 23 (.tmp 5) rfl rfl num_u rfl num_size NS.out ?_
    refine hK _ ?_
    clear hK K
    iterate 2 (refine tree_read rfl (fun K hK => ?_); go_simp; refine hK _ ?_; clear hK K)
    refine tree_step rfl (Cl.of x0.out) (fun K hK => ?_)
    go_simp
    have hz := zero_below (u4.drew)
    have hs := zero_shape (u4.drew)
    have iz := intV_below (intV_below IX.out (Below.refl u4.heap.size u4)) x0.out
    have jz := intV_below IY.out x0.out
    have ca := add_any (u4.drew).heap.size gx gy _ _ _ hs (intV_below iz hz) (intV_below jz hz) B0.out B1.out
    unfold zeroObj at hz ca
    have CA := Lib.hid ca
    have x1 := Lib.hid (x0.out.trans (hz.mono x0.out.size))
    refine hK _ _ ⟨Cl.of x1.out, ?_⟩
    have SZ := Lib.hid (x0.out.size)
    clear hK K hz hs iz jz ca
    refine tree_step rfl (Cl.of x1.out) (fun K hK => ?_)
    go_simp
    refine CA.out.mono ?_
    clear CA
    rintro e t2 ⟨rfl, i2, g2⟩
    have x2 := Lib.hid (x1.out.trans (grownBelow g2 SZ.out x1.out.size))
    refine hK _ _ ⟨Cl.of x2.out, ?_⟩
    have CN := Lib.hid (knum_any _ _ t2 i2 BA.out)
    rw [HSe.out] at CN
    clear hK K i2 g2 SZ
    refine tree_step rfl (Cl.of x2.out) (fun K hK => ?_)
    go_simp
    refine CN.out.mono ?_
    clear CN
    rintro e t3 ⟨rfl, b3⟩
    try have htt3 : FieldWW.TabP t3 := FieldWW.TabP.below (by assumption) b3
    have x3 := Lib.hid (x2.out.trans (b3.mono x2.out.size))
    refine hK _ _ ⟨Cl.of x3.out, ?_⟩
    clear hK K b3
    iterate 3 (refine tree_read rfl (fun K hK => ?_); go_simp; refine hK _ ?_; clear hK K)
    refine tree_read rfl (fun K hK => ?_)
    refine loadT (by rfl) (fun V (h : ∃ x : Ab u4, V = x.val) => P7.out.below (Cl.below h) P7.out.lt) 23 (.tmp 7) rfl rfl num_u rfl num_size ND.out ?_
    refine hK _ ?_
    clear hK K
    iterate 2 (refine tree_read rfl (fun K hK => ?_); go_simp; refine hK _ ?_; clear hK K)
    refine tree_step rfl (Cl.of x3.out) (fun K hK => ?_)
    go_simp
    have hz := zero_below (t3)
    have hs := zero_shape (t3)
    have iz := intV_below (intV_below IX.out (Below.refl u4.heap.size u4)) x3.out
    have jz := intV_below IY.out x3.out
    have ca := sub_any (t3).heap.size gx gy _ _ _ hs (intV_below iz hz) (intV_below jz hz) B0.out B1.out
    unfold zeroObj at hz ca
    have CA := Lib.hid ca
    have x4 := Lib.hid (x3.out.trans (hz.mono x3.out.size))
    refine hK _ _ ⟨Cl.of x4.out, ?_⟩
    have SZ := Lib.hid (x3.out.size)
    clear hK K hz hs iz jz ca
    refine tree_step rfl (Cl.of x4.out) (fun K hK => ?_)
    go_simp
    refine CA.out.mono ?_
    clear CA
    rintro e t5 ⟨rfl, i5, g5⟩
    have x5 := Lib.hid (x4.out.trans (grownBelow g5 SZ.out x4.out.size))
    refine hK _ _ ⟨Cl.of x5.out, ?_⟩
    have CN := Lib.hid (knum_any _ _ t5 i5 BS.out)
    rw [HDe.out] at CN
    clear hK K i5 g5 SZ
    refine tree_step rfl (Cl.of x5.out) (fun K hK => ?_)
    go_simp
    refine CN.out.mono ?_
    clear CN
    rintro e t6 ⟨rfl, b6⟩
    try have htt6 : FieldWW.TabP t6 := FieldWW.TabP.below (by assumption) b6
    have x6 := Lib.hid (x5.out.trans (b6.mono x5.out.size))
    refine hK _ _ ⟨Cl.of x6.out, ?_⟩
    clear hK K b6
    iterate 3 (refine tree_read rfl (fun K hK => ?_); go_simp; refine hK _ ?_; clear hK K)
    refine tree_read rfl (fun K hK => ?_)
    refine loadT (by rfl) (fun V (h : ∃ x : Ab u4, V = x.val) => P9.out.below (Cl.below h) P9.out.lt) 23 (.tmp 9) rfl rfl num_u rfl num_size NM.out ?_
    refine hK _ ?_
    clear hK K
    iterate 2 (refine tree_read rfl (fun K hK => ?_); go_simp; refine hK _ ?_; clear hK K)
    refine tree_step rfl (Cl.of x6.out) (fun K hK => ?_)
    go_simp
    have hz := zero_below (t6)
    have hs := zero_shape (t6)
    have iz := intV_below (intV_below IX.out (Below.refl u4.heap.size u4)) x6.out
    have jz := intV_below IY.out x6.out
    have ca := mulv_any (t6).heap.size gx gy _ _ _ hs (intV_below iz hz) (intV_below jz hz) B0.out B1.out
    unfold zeroObj at hz ca
    have CA := Lib.hid ca
    have x7 := Lib.hid (x6.out.trans (hz.mono x6.out.size))
    refine hK _ _ ⟨Cl.of x7.out, ?_⟩
    have SZ := Lib.hid (x6.out.size)
    clear hK K hz hs iz jz ca
    refine tree_step rfl (Cl.of x7.out) (fun K hK => ?_)
    go_simp
    refine CA.out.mono ?_
    clear CA
    rintro e t8 ⟨rfl, i8, g8⟩
    have x8 := Lib.hid (x7.out.trans (grownBelow g8 SZ.out x7.out.size))
    refine hK _ _ ⟨Cl.of x8.out, ?_⟩
    have CN := Lib.hid (knum_any _ _ t8 i8 BM.out)
    rw [HMe.out] at CN
    clear hK K i8 g8 SZ
    refine tree_step rfl (Cl.of x8.out) (fun K hK => ?_)
    go_simp
    refine CN.out.mono ?_
    clear CN
    rintro e t9 ⟨rfl, b9⟩
    try have htt9 : FieldWW.TabP t9 := FieldWW.TabP.below (by assumption) b9
    have x9 := Lib.hid (x8.out.trans (b9.mono x8.out.size))
    refine hK _ _ ⟨Cl.of x9.out, ?_⟩
    clear hK K b9
    iterate 3 (refine tree_read rfl (fun K hK => ?_); go_simp; refine hK _ ?_; clear hK K)
    refine tree_done ?_
    replace X := Lib.hid (X.out.trans (x9.out.mono X.out.size))
    clear eqs eqd eqm hab
    go_wp2
    go_ret
    exact ⟨rfl, X.out⟩
  · have e1 : (s, es) = (zeros, 2) := HS.out.symm.trans (binM_bad hr)
    have e2 : (d, ed) = (zeros, 2) := HD.out.symm.trans (binM_bad hr)
    have e3 : (m, em) = (zeros, 2) := HM.out.symm.trans (binM_bad hr)
    simp only [Prod.mk.injEq] at e1 e2 e3
    obtain ⟨rfl, rfl⟩ := e1
    obtain ⟨rfl, rfl⟩ := e2
    obtain ⟨rfl, rfl⟩ := e3
    have HZ := Lib.hid znum
    clear HS HD HM LS LD LM
    by_cases h0 : leN l0 < P
    · have d0 : decide (leN l0 < P) = true := decide_eq_true h0
      have d1 : decide (leN l1 < P) = false := decide_eq_false (fun h => hr ⟨h0, h⟩)
      rw [d0] at CK
      rw [d1] at CK1
      clear h0 hr d0 d1
      go_wp2_with (first | (show wpList _ _ _ (⟨_, Op.load _ (.tmp 2), _, _, _, _⟩ :: _) _ _; refine Arr.loadL P2.out rfl 23 (.tmp 2) rfl rfl num_u rfl num_size N0.out ?_))
      refine (CK.out _).mono ?_
      rintro e v7 ⟨rfl, b7⟩
      try have htv7 : FieldWW.TabP v7 := FieldWW.TabP.below (by assumption) b7
      replace P2 := Lib.hid (P2.out.below b7 P2.out.lt)
      replace P3 := Lib.hid (P3.out.below b7 P3.out.lt)
      replace P5 := Lib.hid (P5.out.below b7 P5.out.lt)
      replace P7 := Lib.hid (P7.out.below b7 P7.out.lt)
      replace P9 := Lib.hid (P9.out.below b7 P9.out.lt)
      replace X := Lib.hid (X.out.trans (b7.mono X.out.size))
      clear b7
      go_wp2_with (first | (show wpList _ _ _ (⟨_, Op.load _ (.tmp 3), _, _, _, _⟩ :: _) _ _; refine ArrL.loadLg P3.out (by rfl) 23 (.tmp 3) rfl rfl num_u rfl num_size N1.out ?_))
      refine (CK1.out _).mono ?_
      rintro e v8 ⟨rfl, b8⟩
      try have htv8 : FieldWW.TabP v8 := FieldWW.TabP.below (by assumption) b8
      replace P2 := Lib.hid (P2.out.below b8 P2.out.lt)
      replace P3 := Lib.hid (P3.out.below b8 P3.out.lt)
      replace P5 := Lib.hid (P5.out.below b8 P5.out.lt)
      replace P7 := Lib.hid (P7.out.below b8 P7.out.lt)
      replace P9 := Lib.hid (P9.out.below b8 P9.out.lt)
      replace X := Lib.hid (X.out.trans (b8.mono X.out.size))
      clear b8
      have eqz := fun V => eqn_same zeros rfl V
      go_wp2_with (first | (show wpList _ _ _ (⟨_, Op.load _ (.tmp 5), _, _, _, _⟩ :: _) _ _; refine ArrL.loadLg P5.out (by rfl) 23 (.tmp 5) rfl rfl num_u rfl num_size NS.out ?_) | (show wpList _ _ _ (⟨_, Op.load _ (.tmp 7), _, _, _, _⟩ :: _) _ _; refine ArrL.loadLg P7.out (by rfl) 23 (.tmp 7) rfl rfl num_u rfl num_size ND.out ?_) | (show wpList _ _ _ (⟨_, Op.load _ (.tmp 9), _, _, _, _⟩ :: _) _ _; refine ArrL.loadLg P9.out (by rfl) 23 (.tmp 9) rfl rfl num_u rfl num_size NM.out ?_) | (show wpList _ _ _ (⟨_, Op.build _ _, _, _, _, _⟩ :: _) _ _; refine ArrL.buildLg (by rfl) rfl rfl (HZ.out _) ?_))
      go_ret
      exact ⟨rfl, X.out⟩
    · have d0 : decide (leN l0 < P) = false := decide_eq_false h0
      rw [d0] at CK
      clear h0 hr d0 CK1
      go_wp2_with (first | (show wpList _ _ _ (⟨_, Op.load _ (.tmp 2), _, _, _, _⟩ :: _) _ _; refine Arr.loadL P2.out rfl 23 (.tmp 2) rfl rfl num_u rfl num_size N0.out ?_))
      refine (CK.out _).mono ?_
      rintro e v7 ⟨rfl, b7⟩
      try have htv7 : FieldWW.TabP v7 := FieldWW.TabP.below (by assumption) b7
      replace P2 := Lib.hid (P2.out.below b7 P2.out.lt)
      replace P3 := Lib.hid (P3.out.below b7 P3.out.lt)
      replace P5 := Lib.hid (P5.out.below b7 P5.out.lt)
      replace P7 := Lib.hid (P7.out.below b7 P7.out.lt)
      replace P9 := Lib.hid (P9.out.below b7 P9.out.lt)
      replace X := Lib.hid (X.out.trans (b7.mono X.out.size))
      clear b7
      have eqz := fun V => eqn_same zeros rfl V
      go_wp2_with (first | (show wpList _ _ _ (⟨_, Op.load _ (.tmp 5), _, _, _, _⟩ :: _) _ _; refine ArrL.loadLg P5.out (by rfl) 23 (.tmp 5) rfl rfl num_u rfl num_size NS.out ?_) | (show wpList _ _ _ (⟨_, Op.load _ (.tmp 7), _, _, _, _⟩ :: _) _ _; refine ArrL.loadLg P7.out (by rfl) 23 (.tmp 7) rfl rfl num_u rfl num_size ND.out ?_) | (show wpList _ _ _ (⟨_, Op.load _ (.tmp 9), _, _, _, _⟩ :: _) _ _; refine ArrL.loadLg P9.out (by rfl) 23 (.tmp 9) rfl rfl num_u rfl num_size NM.out ?_) | (show wpList _ _ _ (⟨_, Op.build _ _, _, _, _, _⟩ :: _) _ _; refine ArrL.buildLg (by rfl) rfl rfl (HZ.out _) ?_))
      go_ret
      exact ⟨rfl, X.out⟩
end Go.Proofs.YtfngomlknhappaaDoor.FieldReckonsL
