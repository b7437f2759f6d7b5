/-
  The walk of ticketwardkeep.FieldInv: it returns true and writes nothing that was there. Conditions: none.
-/
import Derived.Test.YtfngomlknhappaaDoorFieldAlive
import Derived.Test.YtfngomlknhappaaDoorKn
import Derived.Test.YtfngomlknhappaaDoorArrT
import Derived.BigGuard
import Derived.BigQuiet
import Derived.Outline
import Derived.Deep.DeepMust
import Derived.StillTailTactics
import Derived.Deep.DeepCutAuto
namespace Go.Proofs.YtfngomlknhappaaDoor.FieldInvL
open Go.RowKit BytesW ArrW ArrG ArrL ArrT FieldLW FieldAliveW FieldM NumA NumF FieldTW FieldSumW

set_option maxHeartbeats 4000000 in
set_option maxRecDepth 100000 in
theorem walk (l0 : List UInt8) (hl0 : l0.length = 32) (w : World) (hL : FieldWW.Tabs w) : Calls Tryd.prog 6 #[.agg (Lib.byteCells l0).toArray] w fun e w' => e = .returned (.bool true) ∧ Below w.heap.size w w' := by
  have N0 := Lib.hid (bc32 hl0)
  have L0 := Lib.hid hl0
  have CR := Lib.hid (fun V (hV : FieldWW.Tabs V) => fright_any l0 hl0 V hV.1)
  have HZ := Lib.hid znum
  have NZ := Lib.hid (bc32 zeros_len)
  clear hl0
  go_enter Tryd.func6, Tryd.ntmps6
  go_upto_region 1 with (fail)
  generalize hW : World.alloc _ _ = v0
  obtain ⟨a0, b0, z0⟩ := start1 hW
  try have htv0 : FieldWW.Tabs v0 := FieldWW.Tabs.below (by assumption) b0
  have X := Lib.hid b0
  obtain ⟨g1, hg1⟩ : ∃ g, w.heap.size = g := ⟨_, rfl⟩
  try simp only [hg1]
  have P1 : Hid (Arr v0 g1 23 (Lib.byteCells l0)) := Lib.hid (by rw [show g1 = w.heap.size by omega]; exact a0)
  clear hW z0 b0 a0 hg1
  go_wp2_with (fail)
  refine (alive11 _ (by assumption)).mono ?_
  rintro e v1 ⟨rfl, b1⟩
  try have htv1 : FieldWW.Tabs v1 := FieldWW.Tabs.below (by assumption) b1
  replace P1 := Lib.hid (P1.out.below b1 P1.out.lt)
  replace X := Lib.hid (X.out.trans (b1.mono X.out.size))
  clear b1
  have eqz := fun V => eqn_same zeros rfl V
  by_cases h0 : leN l0 < P
  rotate_left
  · rw [decide_eq_false h0] at CR
    have eqn0 := fun V => eqn l0 zeros L0.out zeros_len V
    rw [decide_eq_false (ne_zeros h0)] at eqn0
    have K := fun V (hV : FieldWW.Tabs V) => finv_any l0 L0.out V hV.1
    rw [invX h0] at K
    replace K := Lib.hid K
    clear h0
    go_wp2_with (first | (show wpList _ _ _ (⟨_, Op.load _ (.tmp 1), _, _, _, _⟩ :: _) _ _; refine Arr.loadL P1.out rfl 23 (.tmp 1) rfl rfl num_u rfl num_size N0.out ?_))
    refine (K.out _ (by assumption)).mono ?_
    rintro e v2 ⟨rfl, b2⟩
    try have htv2 : FieldWW.Tabs v2 := FieldWW.Tabs.below (by assumption) b2
    replace P1 := Lib.hid (P1.out.below b2 P1.out.lt)
    replace X := Lib.hid (X.out.trans (b2.mono X.out.size))
    clear b2
    clear K
    go_upto_region 4 with (show wpList _ _ _ (⟨_, Op.store _ _ _, _, _, _, _⟩ :: _) _ _; refine Arr.storeL (Arr.new v2 _ _) rfl 23 (.tmp 3) (.tmp 14) rfl rfl (Lib.byteCells zeros) rfl num_size (by rfl) NZ.out (bytes_one _) ?_)
    generalize hw : World.setRow _ _ _ = v3
    obtain ⟨p3, b3, z3⟩ := filled hw
    try have htv3 : FieldWW.Tabs v3 := FieldWW.Tabs.below (by assumption) b3
    replace P1 := Lib.hid (P1.out.below b3 P1.out.lt)
    replace X := Lib.hid (X.out.trans (b3.mono X.out.size))
    obtain ⟨g3, hg3⟩ : ∃ g, v2.heap.size = g := ⟨_, rfl⟩
    rw [hg3] at p3 ⊢
    have P3 := Lib.hid p3
    clear p3 b3 z3 hw hg3
    go_wp2_with (first | (show wpList _ _ _ (⟨_, Op.load _ (.tmp 1), _, _, _, _⟩ :: _) _ _; refine ArrL.loadLg P1.out (by rfl) 23 (.tmp 1) rfl rfl num_u rfl num_size N0.out ?_) | (show wpList _ _ _ (⟨_, Op.load _ (.tmp 3), _, _, _, _⟩ :: _) _ _; refine ArrL.loadLg P3.out (by rfl) 23 (.tmp 3) rfl rfl num_u rfl num_size NZ.out ?_) | (show wpList _ _ _ (⟨_, Op.load _ (.tmp 1), _, _, _, _⟩ :: _) _ _; refine Arr.loadL P1.out rfl 23 (.tmp 1) rfl rfl num_u rfl num_size N0.out ?_) | (show wpList _ _ _ (⟨_, Op.load _ (.tmp 3), _, _, _, _⟩ :: _) _ _; refine Arr.loadL P3.out rfl 23 (.tmp 3) rfl rfl num_u rfl num_size NZ.out ?_) | (show wpList _ _ _ (⟨_, Op.build _ #[], _, _, _, _⟩ :: _) _ _; refine ArrL.buildLg (by rfl) rfl rfl (HZ.out _) ?_) | (show wpList _ _ _ (⟨_, Op.build _ #[], _, _, _, _⟩ :: _) _ _; refine ArrL.buildL rfl rfl rfl (HZ.out _) ?_))
    refine (CR.out _ (by assumption)).mono ?_
    rintro e v4 ⟨rfl, b4⟩
    try have htv4 : FieldWW.Tabs v4 := FieldWW.Tabs.below (by assumption) b4
    replace P1 := Lib.hid (P1.out.below b4 P1.out.lt)
    replace P3 := Lib.hid (P3.out.below b4 P3.out.lt)
    replace X := Lib.hid (X.out.trans (b4.mono X.out.size))
    clear b4
    go_wp2_with (first | (show wpList _ _ _ (⟨_, Op.load _ (.tmp 1), _, _, _, _⟩ :: _) _ _; refine ArrL.loadLg P1.out (by rfl) 23 (.tmp 1) rfl rfl num_u rfl num_size N0.out ?_) | (show wpList _ _ _ (⟨_, Op.load _ (.tmp 3), _, _, _, _⟩ :: _) _ _; refine ArrL.loadLg P3.out (by rfl) 23 (.tmp 3) rfl rfl num_u rfl num_size NZ.out ?_) | (show wpList _ _ _ (⟨_, Op.load _ (.tmp 1), _, _, _, _⟩ :: _) _ _; refine Arr.loadL P1.out rfl 23 (.tmp 1) rfl rfl num_u rfl num_size N0.out ?_) | (show wpList _ _ _ (⟨_, Op.load _ (.tmp 3), _, _, _, _⟩ :: _) _ _; refine Arr.loadL P3.out rfl 23 (.tmp 3) rfl rfl num_u rfl num_size NZ.out ?_) | (show wpList _ _ _ (⟨_, Op.build _ #[], _, _, _, _⟩ :: _) _ _; refine ArrL.buildLg (by rfl) rfl rfl (HZ.out _) ?_))
    go_ret
    exact ⟨rfl, X.out⟩
  obtain ⟨A, e0⟩ := as_toL L0.out h0
  by_cases hA : A = 0
  · subst hA
    rw [toL_zero] at e0
    subst e0
    have K := fun V (hV : FieldWW.Tabs V) => finv_any zeros zeros_len V hV.1
    rw [show invM zeros = (zeros, 3) by rw [← toL_zero, invZ, toL_zero]] at K
    replace K := Lib.hid K
    clear h0 CR
    go_wp2_with (first | (show wpList _ _ _ (⟨_, Op.load _ (.tmp 1), _, _, _, _⟩ :: _) _ _; refine Arr.loadL P1.out rfl 23 (.tmp 1) rfl rfl num_u rfl num_size N0.out ?_))
    refine (K.out _ (by assumption)).mono ?_
    rintro e v2 ⟨rfl, b2⟩
    try have htv2 : FieldWW.Tabs v2 := FieldWW.Tabs.below (by assumption) b2
    replace P1 := Lib.hid (P1.out.below b2 P1.out.lt)
    replace X := Lib.hid (X.out.trans (b2.mono X.out.size))
    clear b2
    clear K
    go_upto_region 4 with (show wpList _ _ _ (⟨_, Op.store _ _ _, _, _, _, _⟩ :: _) _ _; refine Arr.storeL (Arr.new v2 _ _) rfl 23 (.tmp 3) (.tmp 14) rfl rfl (Lib.byteCells zeros) rfl num_size (by rfl) NZ.out (bytes_one _) ?_)
    generalize hw : World.setRow _ _ _ = v3
    obtain ⟨p3, b3, z3⟩ := filled hw
    try have htv3 : FieldWW.Tabs v3 := FieldWW.Tabs.below (by assumption) b3
    replace P1 := Lib.hid (P1.out.below b3 P1.out.lt)
    replace X := Lib.hid (X.out.trans (b3.mono X.out.size))
    obtain ⟨g3, hg3⟩ : ∃ g, v2.heap.size = g := ⟨_, rfl⟩
    rw [hg3] at p3 ⊢
    have P3 := Lib.hid p3
    clear p3 b3 z3 hw hg3
    go_wp2_with (first | (show wpList _ _ _ (⟨_, Op.load _ (.tmp 1), _, _, _, _⟩ :: _) _ _; refine ArrL.loadLg P1.out (by rfl) 23 (.tmp 1) rfl rfl num_u rfl num_size N0.out ?_) | (show wpList _ _ _ (⟨_, Op.load _ (.tmp 3), _, _, _, _⟩ :: _) _ _; refine ArrL.loadLg P3.out (by rfl) 23 (.tmp 3) rfl rfl num_u rfl num_size NZ.out ?_) | (show wpList _ _ _ (⟨_, Op.load _ (.tmp 1), _, _, _, _⟩ :: _) _ _; refine Arr.loadL P1.out rfl 23 (.tmp 1) rfl rfl num_u rfl num_size N0.out ?_) | (show wpList _ _ _ (⟨_, Op.load _ (.tmp 3), _, _, _, _⟩ :: _) _ _; refine Arr.loadL P3.out rfl 23 (.tmp 3) rfl rfl num_u rfl num_size NZ.out ?_) | (show wpList _ _ _ (⟨_, Op.build _ #[], _, _, _, _⟩ :: _) _ _; refine ArrL.buildLg (by rfl) rfl rfl (HZ.out _) ?_) | (show wpList _ _ _ (⟨_, Op.build _ #[], _, _, _, _⟩ :: _) _ _; refine ArrL.buildL rfl rfl rfl (HZ.out _) ?_))
    go_ret
    exact ⟨rfl, X.out⟩
  · have r1 := inv_mul hA
    obtain ⟨I, hI⟩ : ∃ l, toL (inv A) = l := ⟨_, rfl⟩
    have NI := Lib.hid (bc32 (show I.length = 32 by rw [← hI]; exact toL_len _))
    have LI := Lib.hid (show I.length = 32 by rw [← hI]; exact toL_len _)
    obtain ⟨O, hO⟩ : ∃ l, toL 1 = l := ⟨_, rfl⟩
    have NO := Lib.hid (bc32 (show O.length = 32 by rw [← hO]; exact toL_len _))
    have LO := Lib.hid (show O.length = 32 by rw [← hO]; exact toL_len _)
    have K1 := fun V (hV : FieldWW.Tabs V) => finv_any l0 L0.out V hV.1
    rw [show invM l0 = (I, 0) by rw [e0, invT hA, hI]] at K1
    replace K1 := Lib.hid K1
    have K2 := fun V (hV : FieldWW.Tabs V) => fmul_any l0 I L0.out LI.out V hV.1
    rw [show mulM l0 I = (O, 0) by rw [e0, ← hI, mulT, r1, hO]] at K2
    replace K2 := Lib.hid K2
    have K3 := fun V (hV : FieldWW.Tabs V) => finv_any I LI.out V hV.1
    rw [show invM I = (l0, 0) by rw [← hI, invT (inv_ne hA), inv_inv, e0]] at K3
    replace K3 := Lib.hid K3
    have H1 := Lib.hid (fun w => bone w)
    rw [show lit 1 0 = O by rw [← hO]; decide +kernel] at H1
    clear r1 hI hO e0 hA h0 CR eqz HZ NZ
    go_wp2_with (first | (show wpList _ _ _ (⟨_, Op.load _ (.tmp 1), _, _, _, _⟩ :: _) _ _; refine Arr.loadL P1.out rfl 23 (.tmp 1) rfl rfl num_u rfl num_size N0.out ?_))
    refine (K1.out _ (by assumption)).mono ?_
    rintro e v2 ⟨rfl, b2⟩
    try have htv2 : FieldWW.Tabs v2 := FieldWW.Tabs.below (by assumption) b2
    replace P1 := Lib.hid (P1.out.below b2 P1.out.lt)
    replace X := Lib.hid (X.out.trans (b2.mono X.out.size))
    clear b2
    clear K1
    go_upto_region 4 with (show wpList _ _ _ (⟨_, Op.store _ _ _, _, _, _, _⟩ :: _) _ _; refine Arr.storeL (Arr.new v2 _ _) rfl 23 (.tmp 3) (.tmp 14) rfl rfl (Lib.byteCells I) rfl num_size (by rfl) NI.out (bytes_one _) ?_)
    generalize hw : World.setRow _ _ _ = v3
    obtain ⟨p3, b3, z3⟩ := filled hw
    try have htv3 : FieldWW.Tabs v3 := FieldWW.Tabs.below (by assumption) b3
    replace P1 := Lib.hid (P1.out.below b3 P1.out.lt)
    replace X := Lib.hid (X.out.trans (b3.mono X.out.size))
    obtain ⟨g3, hg3⟩ : ∃ g, v2.heap.size = g := ⟨_, rfl⟩
    rw [hg3] at p3 ⊢
    have P3 := Lib.hid p3
    clear p3 b3 z3 hw hg3
    go_wp2_with (first | (show wpList _ _ _ (⟨_, Op.load _ (.tmp 1), _, _, _, _⟩ :: _) _ _; refine Arr.loadL P1.out rfl 23 (.tmp 1) rfl rfl num_u rfl num_size N0.out ?_) | (show wpList _ _ _ (⟨_, Op.load _ (.tmp 3), _, _, _, _⟩ :: _) _ _; refine Arr.loadL P3.out rfl 23 (.tmp 3) rfl rfl num_u rfl num_size NI.out ?_))
    refine (K2.out _ (by assumption)).mono ?_
    rintro e v4 ⟨rfl, b4⟩
    try have htv4 : FieldWW.Tabs v4 := FieldWW.Tabs.below (by assumption) b4
    replace P1 := Lib.hid (P1.out.below b4 P1.out.lt)
    replace P3 := Lib.hid (P3.out.below b4 P3.out.lt)
    replace X := Lib.hid (X.out.trans (b4.mono X.out.size))
    clear b4
    clear K2
    go_upto_region 7 with (show wpList _ _ _ (⟨_, Op.store _ _ _, _, _, _, _⟩ :: _) _ _; refine Arr.storeL (Arr.new v4 _ _) rfl 23 (.tmp 5) (.tmp 35) rfl rfl (Lib.byteCells O) rfl num_size (by rfl) NO.out (bytes_one _) ?_)
    generalize hw : World.setRow _ _ _ = v5
    obtain ⟨p5, b5, z5⟩ := filled hw
    try have htv5 : FieldWW.Tabs v5 := FieldWW.Tabs.below (by assumption) b5
    replace P1 := Lib.hid (P1.out.below b5 P1.out.lt)
    replace P3 := Lib.hid (P3.out.below b5 P3.out.lt)
    replace X := Lib.hid (X.out.trans (b5.mono X.out.size))
    obtain ⟨g5, hg5⟩ : ∃ g, v4.heap.size = g := ⟨_, rfl⟩
    rw [hg5] at p5 ⊢
    have P5 := Lib.hid p5
    clear p5 b5 z5 hw hg5
    go_wp2_with (first | (show wpList _ _ _ (⟨_, Op.load _ (.tmp 3), _, _, _, _⟩ :: _) _ _; refine Arr.loadL P3.out rfl 23 (.tmp 3) rfl rfl num_u rfl num_size NI.out ?_))
    refine (K3.out _ (by assumption)).mono ?_
    rintro e v6 ⟨rfl, b6⟩
    try have htv6 : FieldWW.Tabs v6 := FieldWW.Tabs.below (by assumption) b6
    replace P1 := Lib.hid (P1.out.below b6 P1.out.lt)
    replace P3 := Lib.hid (P3.out.below b6 P3.out.lt)
    replace P5 := Lib.hid (P5.out.below b6 P5.out.lt)
    replace X := Lib.hid (X.out.trans (b6.mono X.out.size))
    clear b6
    clear K3
    go_upto_region 8 with (show wpList _ _ _ (⟨_, Op.store _ _ _, _, _, _, _⟩ :: _) _ _; refine Arr.storeL (Arr.new v6 _ _) rfl 23 (.tmp 7) (.tmp 40) rfl rfl (Lib.byteCells l0) rfl num_size (by rfl) N0.out (bytes_one _) ?_)
    generalize hw : World.setRow _ _ _ = v7
    obtain ⟨p7, b7, z7⟩ := filled hw
    try have htv7 : FieldWW.Tabs v7 := FieldWW.Tabs.below (by assumption) b7
    replace P1 := Lib.hid (P1.out.below b7 P1.out.lt)
    replace P3 := Lib.hid (P3.out.below b7 P3.out.lt)
    replace P5 := Lib.hid (P5.out.below b7 P5.out.lt)
    replace X := Lib.hid (X.out.trans (b7.mono X.out.size))
    obtain ⟨g7, hg7⟩ : ∃ g, v6.heap.size = g := ⟨_, rfl⟩
    rw [hg7] at p7 ⊢
    have P7 := Lib.hid p7
    clear p7 b7 z7 hw hg7
    have q1 := eqn_same O LO.out v7
    have q2 := eqn_same l0 L0.out v7
    go_wp2_with (first | (show wpList _ _ _ (⟨_, Op.load _ (.tmp 5), _, _, _, _⟩ :: _) _ _; refine ArrL.loadLg P5.out (by rfl) 23 (.tmp 5) rfl rfl num_u rfl num_size NO.out ?_) | (show wpList _ _ _ (⟨_, Op.load _ (.tmp 7), _, _, _, _⟩ :: _) _ _; refine ArrL.loadLg P7.out (by rfl) 23 (.tmp 7) rfl rfl num_u rfl num_size N0.out ?_) | (show wpList _ _ _ (⟨_, Op.load _ (.tmp 1), _, _, _, _⟩ :: _) _ _; refine ArrL.loadLg P1.out (by rfl) 23 (.tmp 1) rfl rfl num_u rfl num_size N0.out ?_) | (show wpList _ _ _ (⟨_, Op.load _ (.tmp 5), _, _, _, _⟩ :: _) _ _; refine Arr.loadL P5.out rfl 23 (.tmp 5) rfl rfl num_u rfl num_size NO.out ?_) | (show wpList _ _ _ (⟨_, Op.load _ (.tmp 7), _, _, _, _⟩ :: _) _ _; refine Arr.loadL P7.out rfl 23 (.tmp 7) rfl rfl num_u rfl num_size N0.out ?_) | (show wpList _ _ _ (⟨_, Op.load _ (.tmp 1), _, _, _, _⟩ :: _) _ _; refine Arr.loadL P1.out rfl 23 (.tmp 1) rfl rfl num_u rfl num_size N0.out ?_) | (show wpList _ _ _ (⟨_, Op.build _ #[(0, .const (.int .u8 1))], _, _, _, _⟩ :: _) _ _; refine ArrL.buildLg (by rfl) rfl rfl (H1.out _) ?_))
    go_ret
    exact ⟨rfl, X.out⟩
end Go.Proofs.YtfngomlknhappaaDoor.FieldInvL
