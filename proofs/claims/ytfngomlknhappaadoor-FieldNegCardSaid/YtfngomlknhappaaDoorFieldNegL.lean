/-
  The walk of ticketwardkeep.FieldNeg: it returns true and writes nothing that was there. Conditions: none.
-/
import Derived.Test.YtfngomlknhappaaDoorFieldAlive
import Derived.Test.YtfngomlknhappaaDoorKn
import Derived.Test.YtfngomlknhappaaDoorArrT
import Derived.BigGuard
import Derived.BigQuiet
import Derived.Outline
import Derived.Deep.DeepMust
import Derived.StillTailTactics
import Derived.Deep.DeepCutAuto
namespace Go.Proofs.YtfngomlknhappaaDoor.FieldNegL
open Go.RowKit BytesW ArrW ArrG ArrL ArrT FieldLW FieldAliveW FieldM NumA NumF FieldTW FieldSumW

set_option maxHeartbeats 4000000 in
set_option maxRecDepth 100000 in
theorem walk (l0 : List UInt8) (hl0 : l0.length = 32) (w : World) (hL : FieldWW.Tabs w) : Calls Tryd.prog 8 #[.agg (Lib.byteCells l0).toArray] w fun e w' => e = .returned (.bool true) ∧ Below w.heap.size w w' := by
  have N0 := Lib.hid (bc32 hl0)
  have L0 := Lib.hid hl0
  have CR := Lib.hid (fun V (hV : FieldWW.Tabs V) => fright_any l0 hl0 V hV.1)
  have HZ := Lib.hid znum
  have NZ := Lib.hid (bc32 zeros_len)
  clear hl0
  go_enter Tryd.func8, Tryd.ntmps8
  go_upto_region 1 with (fail)
  generalize hW : World.alloc _ _ = v0
  obtain ⟨a0, b0, z0⟩ := start1 hW
  try have htv0 : FieldWW.Tabs v0 := FieldWW.Tabs.below (by assumption) b0
  have X := Lib.hid b0
  obtain ⟨g1, hg1⟩ : ∃ g, w.heap.size = g := ⟨_, rfl⟩
  try simp only [hg1]
  have P1 : Hid (Arr v0 g1 23 (Lib.byteCells l0)) := Lib.hid (by rw [show g1 = w.heap.size by omega]; exact a0)
  clear hW z0 b0 a0 hg1
  go_wp2_with (fail)
  refine (alive11 _ (by assumption)).mono ?_
  rintro e v1 ⟨rfl, b1⟩
  try have htv1 : FieldWW.Tabs v1 := FieldWW.Tabs.below (by assumption) b1
  replace P1 := Lib.hid (P1.out.below b1 P1.out.lt)
  replace X := Lib.hid (X.out.trans (b1.mono X.out.size))
  clear b1
  have eqz := fun V => eqn_same zeros rfl V
  by_cases h0 : leN l0 < P
  rotate_left
  · rw [decide_eq_false h0] at CR
    have K := fun V (hV : FieldWW.Tabs V) => fsub_any zeros l0 zeros_len L0.out V hV.1
    rw [show subM zeros l0 = (zeros, 2) from binX2 h0] at K
    replace K := Lib.hid K
    clear h0
    go_wp2_with (first | (show wpList _ _ _ (⟨_, Op.load _ (.tmp 1), _, _, _, _⟩ :: _) _ _; refine Arr.loadL P1.out rfl 23 (.tmp 1) rfl rfl num_u rfl num_size N0.out ?_) | (show wpList _ _ _ (⟨_, Op.build _ #[], _, _, _, _⟩ :: _) _ _; refine ArrL.buildL rfl rfl rfl (HZ.out _) ?_))
    refine (K.out _ (by assumption)).mono ?_
    rintro e v2 ⟨rfl, b2⟩
    try have htv2 : FieldWW.Tabs v2 := FieldWW.Tabs.below (by assumption) b2
    replace P1 := Lib.hid (P1.out.below b2 P1.out.lt)
    replace X := Lib.hid (X.out.trans (b2.mono X.out.size))
    clear b2
    clear K
    go_upto_region 4 with (show wpList _ _ _ (⟨_, Op.store _ _ _, _, _, _, _⟩ :: _) _ _; refine Arr.storeL (Arr.new v2 _ _) rfl 23 (.tmp 3) (.tmp 17) rfl rfl (Lib.byteCells zeros) rfl num_size (by rfl) NZ.out (bytes_one _) ?_)
    generalize hw : World.setRow _ _ _ = v3
    obtain ⟨p3, b3, z3⟩ := filled hw
    try have htv3 : FieldWW.Tabs v3 := FieldWW.Tabs.below (by assumption) b3
    replace P1 := Lib.hid (P1.out.below b3 P1.out.lt)
    replace X := Lib.hid (X.out.trans (b3.mono X.out.size))
    obtain ⟨g3, hg3⟩ : ∃ g, v2.heap.size = g := ⟨_, rfl⟩
    rw [hg3] at p3 ⊢
    have P3 := Lib.hid p3
    clear p3 b3 z3 hw hg3
    go_wp2_with (first | (show wpList _ _ _ (⟨_, Op.load _ (.tmp 1), _, _, _, _⟩ :: _) _ _; refine ArrL.loadLg P1.out (by rfl) 23 (.tmp 1) rfl rfl num_u rfl num_size N0.out ?_) | (show wpList _ _ _ (⟨_, Op.load _ (.tmp 3), _, _, _, _⟩ :: _) _ _; refine ArrL.loadLg P3.out (by rfl) 23 (.tmp 3) rfl rfl num_u rfl num_size NZ.out ?_) | (show wpList _ _ _ (⟨_, Op.load _ (.tmp 1), _, _, _, _⟩ :: _) _ _; refine Arr.loadL P1.out rfl 23 (.tmp 1) rfl rfl num_u rfl num_size N0.out ?_) | (show wpList _ _ _ (⟨_, Op.load _ (.tmp 3), _, _, _, _⟩ :: _) _ _; refine Arr.loadL P3.out rfl 23 (.tmp 3) rfl rfl num_u rfl num_size NZ.out ?_) | (show wpList _ _ _ (⟨_, Op.build _ #[], _, _, _, _⟩ :: _) _ _; refine ArrL.buildLg (by rfl) rfl rfl (HZ.out _) ?_) | (show wpList _ _ _ (⟨_, Op.build _ #[], _, _, _, _⟩ :: _) _ _; refine ArrL.buildL rfl rfl rfl (HZ.out _) ?_))
    refine (CR.out _ (by assumption)).mono ?_
    rintro e v4 ⟨rfl, b4⟩
    try have htv4 : FieldWW.Tabs v4 := FieldWW.Tabs.below (by assumption) b4
    replace P1 := Lib.hid (P1.out.below b4 P1.out.lt)
    replace P3 := Lib.hid (P3.out.below b4 P3.out.lt)
    replace X := Lib.hid (X.out.trans (b4.mono X.out.size))
    clear b4
    go_wp2_with (first | (show wpList _ _ _ (⟨_, Op.load _ (.tmp 1), _, _, _, _⟩ :: _) _ _; refine ArrL.loadLg P1.out (by rfl) 23 (.tmp 1) rfl rfl num_u rfl num_size N0.out ?_) | (show wpList _ _ _ (⟨_, Op.load _ (.tmp 3), _, _, _, _⟩ :: _) _ _; refine ArrL.loadLg P3.out (by rfl) 23 (.tmp 3) rfl rfl num_u rfl num_size NZ.out ?_) | (show wpList _ _ _ (⟨_, Op.load _ (.tmp 1), _, _, _, _⟩ :: _) _ _; refine Arr.loadL P1.out rfl 23 (.tmp 1) rfl rfl num_u rfl num_size N0.out ?_) | (show wpList _ _ _ (⟨_, Op.load _ (.tmp 3), _, _, _, _⟩ :: _) _ _; refine Arr.loadL P3.out rfl 23 (.tmp 3) rfl rfl num_u rfl num_size NZ.out ?_) | (show wpList _ _ _ (⟨_, Op.build _ #[], _, _, _, _⟩ :: _) _ _; refine ArrL.buildLg (by rfl) rfl rfl (HZ.out _) ?_))
    go_ret
    exact ⟨rfl, X.out⟩
  obtain ⟨A, e0⟩ := as_toL L0.out h0
  obtain ⟨M, hM⟩ : ∃ l, toL (0 - A) = l := ⟨_, rfl⟩
  have NM := Lib.hid (bc32 (show M.length = 32 by rw [← hM]; exact toL_len _))
  have LM := Lib.hid (show M.length = 32 by rw [← hM]; exact toL_len _)
  obtain ⟨Q, hQ⟩ : ∃ l, toL (A * A) = l := ⟨_, rfl⟩
  have NQ := Lib.hid (bc32 (show Q.length = 32 by rw [← hQ]; exact toL_len _))
  have LQ := Lib.hid (show Q.length = 32 by rw [← hQ]; exact toL_len _)
  have r1 : A + (0 - A) = 0 := by grind
  have r2 : (0 - A) * (0 - A) = A * A := by grind
  have K1 := fun V (hV : FieldWW.Tabs V) => fsub_any zeros l0 zeros_len L0.out V hV.1
  rw [show subM zeros l0 = (M, 0) by rw [e0, ← toL_zero, subT, hM]] at K1
  replace K1 := Lib.hid K1
  have K2 := fun V (hV : FieldWW.Tabs V) => fadd_any l0 M L0.out LM.out V hV.1
  rw [show addM l0 M = (zeros, 0) by rw [e0, ← hM, addT, r1, toL_zero]] at K2
  replace K2 := Lib.hid K2
  have K3 := fun V (hV : FieldWW.Tabs V) => fmul_any l0 l0 L0.out L0.out V hV.1
  rw [show mulM l0 l0 = (Q, 0) by rw [e0, mulT, hQ]] at K3
  replace K3 := Lib.hid K3
  have K4 := fun V (hV : FieldWW.Tabs V) => fmul_any M M LM.out LM.out V hV.1
  rw [show mulM M M = (Q, 0) by rw [← hM, mulT, r2, hQ]] at K4
  replace K4 := Lib.hid K4
  have CM := fun V (hV : FieldWW.Tabs V) => fright_any M LM.out V hV.1
  rw [decide_eq_true (show leN M < P by rw [← hM]; exact right_toL _)] at CM
  replace CM := Lib.hid CM
  clear r1 r2 hM hQ e0 h0 CR
  go_wp2_with (first | (show wpList _ _ _ (⟨_, Op.load _ (.tmp 1), _, _, _, _⟩ :: _) _ _; refine Arr.loadL P1.out rfl 23 (.tmp 1) rfl rfl num_u rfl num_size N0.out ?_) | (show wpList _ _ _ (⟨_, Op.build _ #[], _, _, _, _⟩ :: _) _ _; refine ArrL.buildL rfl rfl rfl (HZ.out _) ?_))
  refine (K1.out _ (by assumption)).mono ?_
  rintro e v2 ⟨rfl, b2⟩
  try have htv2 : FieldWW.Tabs v2 := FieldWW.Tabs.below (by assumption) b2
  replace P1 := Lib.hid (P1.out.below b2 P1.out.lt)
  replace X := Lib.hid (X.out.trans (b2.mono X.out.size))
  clear b2
  clear K1
  go_upto_region 4 with (show wpList _ _ _ (⟨_, Op.store _ _ _, _, _, _, _⟩ :: _) _ _; refine Arr.storeL (Arr.new v2 _ _) rfl 23 (.tmp 3) (.tmp 17) rfl rfl (Lib.byteCells M) rfl num_size (by rfl) NM.out (bytes_one _) ?_)
  generalize hw : World.setRow _ _ _ = v3
  obtain ⟨p3, b3, z3⟩ := filled hw
  try have htv3 : FieldWW.Tabs v3 := FieldWW.Tabs.below (by assumption) b3
  replace P1 := Lib.hid (P1.out.below b3 P1.out.lt)
  replace X := Lib.hid (X.out.trans (b3.mono X.out.size))
  obtain ⟨g3, hg3⟩ : ∃ g, v2.heap.size = g := ⟨_, rfl⟩
  rw [hg3] at p3 ⊢
  have P3 := Lib.hid p3
  clear p3 b3 z3 hw hg3
  go_wp2_with (first | (show wpList _ _ _ (⟨_, Op.load _ (.tmp 1), _, _, _, _⟩ :: _) _ _; refine Arr.loadL P1.out rfl 23 (.tmp 1) rfl rfl num_u rfl num_size N0.out ?_) | (show wpList _ _ _ (⟨_, Op.load _ (.tmp 3), _, _, _, _⟩ :: _) _ _; refine Arr.loadL P3.out rfl 23 (.tmp 3) rfl rfl num_u rfl num_size NM.out ?_))
  refine (K2.out _ (by assumption)).mono ?_
  rintro e v4 ⟨rfl, b4⟩
  try have htv4 : FieldWW.Tabs v4 := FieldWW.Tabs.below (by assumption) b4
  replace P1 := Lib.hid (P1.out.below b4 P1.out.lt)
  replace P3 := Lib.hid (P3.out.below b4 P3.out.lt)
  replace X := Lib.hid (X.out.trans (b4.mono X.out.size))
  clear b4
  clear K2
  go_upto_region 7 with (show wpList _ _ _ (⟨_, Op.store _ _ _, _, _, _, _⟩ :: _) _ _; refine Arr.storeL (Arr.new v4 _ _) rfl 23 (.tmp 5) (.tmp 33) rfl rfl (Lib.byteCells zeros) rfl num_size (by rfl) NZ.out (bytes_one _) ?_)
  generalize hw : World.setRow _ _ _ = v5
  obtain ⟨p5, b5, z5⟩ := filled hw
  try have htv5 : FieldWW.Tabs v5 := FieldWW.Tabs.below (by assumption) b5
  replace P1 := Lib.hid (P1.out.below b5 P1.out.lt)
  replace P3 := Lib.hid (P3.out.below b5 P3.out.lt)
  replace X := Lib.hid (X.out.trans (b5.mono X.out.size))
  obtain ⟨g5, hg5⟩ : ∃ g, v4.heap.size = g := ⟨_, rfl⟩
  rw [hg5] at p5 ⊢
  have P5 := Lib.hid p5
  clear p5 b5 z5 hw hg5
  go_wp2_with (first | (show wpList _ _ _ (⟨_, Op.load _ (.tmp 1), _, _, _, _⟩ :: _) _ _; refine Arr.loadL P1.out rfl 23 (.tmp 1) rfl rfl num_u rfl num_size N0.out ?_))
  refine (K3.out _ (by assumption)).mono ?_
  rintro e v6 ⟨rfl, b6⟩
  try have htv6 : FieldWW.Tabs v6 := FieldWW.Tabs.below (by assumption) b6
  replace P1 := Lib.hid (P1.out.below b6 P1.out.lt)
  replace P3 := Lib.hid (P3.out.below b6 P3.out.lt)
  replace P5 := Lib.hid (P5.out.below b6 P5.out.lt)
  replace X := Lib.hid (X.out.trans (b6.mono X.out.size))
  clear b6
  clear K3
  go_upto_region 8 with (show wpList _ _ _ (⟨_, Op.store _ _ _, _, _, _, _⟩ :: _) _ _; refine Arr.storeL (Arr.new v6 _ _) rfl 23 (.tmp 7) (.tmp 39) rfl rfl (Lib.byteCells Q) rfl num_size (by rfl) NQ.out (bytes_one _) ?_)
  generalize hw : World.setRow _ _ _ = v7
  obtain ⟨p7, b7, z7⟩ := filled hw
  try have htv7 : FieldWW.Tabs v7 := FieldWW.Tabs.below (by assumption) b7
  replace P1 := Lib.hid (P1.out.below b7 P1.out.lt)
  replace P3 := Lib.hid (P3.out.below b7 P3.out.lt)
  replace P5 := Lib.hid (P5.out.below b7 P5.out.lt)
  replace X := Lib.hid (X.out.trans (b7.mono X.out.size))
  obtain ⟨g7, hg7⟩ : ∃ g, v6.heap.size = g := ⟨_, rfl⟩
  rw [hg7] at p7 ⊢
  have P7 := Lib.hid p7
  clear p7 b7 z7 hw hg7
  go_wp2_with (first | (show wpList _ _ _ (⟨_, Op.load _ (.tmp 3), _, _, _, _⟩ :: _) _ _; refine Arr.loadL P3.out rfl 23 (.tmp 3) rfl rfl num_u rfl num_size NM.out ?_))
  refine (K4.out _ (by assumption)).mono ?_
  rintro e v8 ⟨rfl, b8⟩
  try have htv8 : FieldWW.Tabs v8 := FieldWW.Tabs.below (by assumption) b8
  replace P1 := Lib.hid (P1.out.below b8 P1.out.lt)
  replace P3 := Lib.hid (P3.out.below b8 P3.out.lt)
  replace P5 := Lib.hid (P5.out.below b8 P5.out.lt)
  replace P7 := Lib.hid (P7.out.below b8 P7.out.lt)
  replace X := Lib.hid (X.out.trans (b8.mono X.out.size))
  clear b8
  clear K4
  go_upto_region 9 with (show wpList _ _ _ (⟨_, Op.store _ _ _, _, _, _, _⟩ :: _) _ _; refine Arr.storeL (Arr.new v8 _ _) rfl 23 (.tmp 9) (.tmp 45) rfl rfl (Lib.byteCells Q) rfl num_size (by rfl) NQ.out (bytes_one _) ?_)
  generalize hw : World.setRow _ _ _ = v9
  obtain ⟨p9, b9, z9⟩ := filled hw
  try have htv9 : FieldWW.Tabs v9 := FieldWW.Tabs.below (by assumption) b9
  replace P1 := Lib.hid (P1.out.below b9 P1.out.lt)
  replace P3 := Lib.hid (P3.out.below b9 P3.out.lt)
  replace P5 := Lib.hid (P5.out.below b9 P5.out.lt)
  replace P7 := Lib.hid (P7.out.below b9 P7.out.lt)
  replace X := Lib.hid (X.out.trans (b9.mono X.out.size))
  obtain ⟨g9, hg9⟩ : ∃ g, v8.heap.size = g := ⟨_, rfl⟩
  rw [hg9] at p9 ⊢
  have P9 := Lib.hid p9
  clear p9 b9 z9 hw hg9
  have q1 := eqn_same Q LQ.out v9
  go_wp2_with (first | (show wpList _ _ _ (⟨_, Op.load _ (.tmp 5), _, _, _, _⟩ :: _) _ _; refine ArrL.loadLg P5.out (by rfl) 23 (.tmp 5) rfl rfl num_u rfl num_size NZ.out ?_) | (show wpList _ _ _ (⟨_, Op.load _ (.tmp 7), _, _, _, _⟩ :: _) _ _; refine ArrL.loadLg P7.out (by rfl) 23 (.tmp 7) rfl rfl num_u rfl num_size NQ.out ?_) | (show wpList _ _ _ (⟨_, Op.load _ (.tmp 9), _, _, _, _⟩ :: _) _ _; refine ArrL.loadLg P9.out (by rfl) 23 (.tmp 9) rfl rfl num_u rfl num_size NQ.out ?_) | (show wpList _ _ _ (⟨_, Op.load _ (.tmp 3), _, _, _, _⟩ :: _) _ _; refine ArrL.loadLg P3.out (by rfl) 23 (.tmp 3) rfl rfl num_u rfl num_size NM.out ?_) | (show wpList _ _ _ (⟨_, Op.load _ (.tmp 5), _, _, _, _⟩ :: _) _ _; refine Arr.loadL P5.out rfl 23 (.tmp 5) rfl rfl num_u rfl num_size NZ.out ?_) | (show wpList _ _ _ (⟨_, Op.load _ (.tmp 7), _, _, _, _⟩ :: _) _ _; refine Arr.loadL P7.out rfl 23 (.tmp 7) rfl rfl num_u rfl num_size NQ.out ?_) | (show wpList _ _ _ (⟨_, Op.load _ (.tmp 9), _, _, _, _⟩ :: _) _ _; refine Arr.loadL P9.out rfl 23 (.tmp 9) rfl rfl num_u rfl num_size NQ.out ?_) | (show wpList _ _ _ (⟨_, Op.load _ (.tmp 3), _, _, _, _⟩ :: _) _ _; refine Arr.loadL P3.out rfl 23 (.tmp 3) rfl rfl num_u rfl num_size NM.out ?_) | (show wpList _ _ _ (⟨_, Op.build _ #[], _, _, _, _⟩ :: _) _ _; refine ArrL.buildLg (by rfl) rfl rfl (HZ.out _) ?_))
  refine (CM.out _ (by assumption)).mono ?_
  rintro e v10 ⟨rfl, b10⟩
  try have htv10 : FieldWW.Tabs v10 := FieldWW.Tabs.below (by assumption) b10
  replace P1 := Lib.hid (P1.out.below b10 P1.out.lt)
  replace P3 := Lib.hid (P3.out.below b10 P3.out.lt)
  replace P5 := Lib.hid (P5.out.below b10 P5.out.lt)
  replace P7 := Lib.hid (P7.out.below b10 P7.out.lt)
  replace P9 := Lib.hid (P9.out.below b10 P9.out.lt)
  replace X := Lib.hid (X.out.trans (b10.mono X.out.size))
  clear b10
  go_wp2
  go_ret
  exact ⟨rfl, X.out⟩
end Go.Proofs.YtfngomlknhappaaDoor.FieldNegL
