/-
  ticketwardkeep.alive11: it returns true. Conditions: none.
-/
import Derived.Test.YtfngomlknhappaaDoorFieldSum
import Derived.Test.YtfngomlknhappaaDoorArrT
import Derived.Outline
import Derived.Deep.DeepMust
import Derived.StillTailTactics
import Derived.Deep.DeepCutAuto
import Derived.BigGuard
import Derived.BigQuiet
namespace Go.Proofs.YtfngomlknhappaaDoor.FieldAliveW
open Go.RowKit BytesW ArrW ArrG ArrL FieldM NumA NumF FieldTW FieldSumW

/-- Small numbers' bytes. -/
def lit (a b : UInt8) : List UInt8 := a :: b :: List.replicate 30 0
theorem lit_len (a b : UInt8) : (lit a b).length = 32 := rfl
theorem b200 (w : World) : (Instr.build 23 #[(0, .int .u8 200)]).run Tryd.prog w = .ok (.agg (Lib.byteCells (lit 200 0)).toArray) w := by kernel_rfl
theorem b100 (w : World) : (Instr.build 23 #[(0, .int .u8 100)]).run Tryd.prog w = .ok (.agg (Lib.byteCells (lit 100 0)).toArray) w := by kernel_rfl
theorem b2 (w : World) : (Instr.build 23 #[(0, .int .u8 2)]).run Tryd.prog w = .ok (.agg (Lib.byteCells (lit 2 0)).toArray) w := by kernel_rfl
theorem b3 (w : World) : (Instr.build 23 #[(0, .int .u8 3)]).run Tryd.prog w = .ok (.agg (Lib.byteCells (lit 3 0)).toArray) w := by kernel_rfl
theorem b9 (w : World) : (Instr.build 23 #[(0, .int .u8 9)]).run Tryd.prog w = .ok (.agg (Lib.byteCells (lit 9 0)).toArray) w := by kernel_rfl
theorem b441 (w : World) : (Instr.build 23 #[(0, .int .u8 44), (1, .int .u8 1)]).run Tryd.prog w = .ok (.agg (Lib.byteCells (lit 44 1)).toArray) w := by kernel_rfl
theorem bone (w : World) : (Instr.build 23 #[(0, .int .u8 1)]).run Tryd.prog w = .ok (.agg (Lib.byteCells (lit 1 0)).toArray) w := by kernel_rfl
theorem add_300 : addM (lit 200 0) (lit 100 0) = (lit 44 1, 0) := by decide +kernel
def half : List UInt8 := toL (el 28948022309329048855892746252171976963317496166410141009864396001978282409975)
theorem half_len : half.length = 32 := toL_len _
theorem inv_two : invM (lit 2 0) = (half, 0) := by
  unfold invM
  rw [if_pos (by decide +kernel), if_neg (by decide +kernel), inv_of (a := ofL (lit 2 0)) (b := el 28948022309329048855892746252171976963317496166410141009864396001978282409975) (by decide +kernel)]
  rfl
def mthree : List UInt8 := toL (el 57896044618658097711785492504343953926634992332820282019728792003956564819946)
theorem mthree_len : mthree.length = 32 := toL_len _
theorem root_nine : rootM (lit 9 0) = (mthree, 0) := by
  unfold rootM
  rw [if_pos (by decide +kernel), rootF_of (a := ofL (lit 9 0)) (r := el 57896044618658097711785492504343953926634992332820282019728792003956564819946) (by decide +kernel) (by decide +kernel)]
  rfl
theorem root_two : rootM (lit 2 0) = (zeros, 3) := by
  unfold rootM
  rw [if_pos (by decide +kernel), rootF_none (a := ofL (lit 2 0)) (by rw [show ofL (lit 2 0) = 2 by decide +kernel]; exact not_sq_two)]
theorem bc_at (l : List UInt8) (k : Nat) (y : UInt8) (h : l[k]? = some y) : (Lib.byteCells l)[k]? = some (.int .u8 (y.toNat : Int)) := by
  unfold Lib.byteCells
  rw [List.getElem?_map, h]
  rfl

set_option maxHeartbeats 4000000 in
set_option maxRecDepth 100000 in
theorem alive11 (w : World) (hL : FieldWW.Tabs w) : Calls Tryd.prog 24 #[] w fun e w' => e = .returned (.bool true) ∧ Below w.heap.size w w' := by
  have CA := fun V (hV : FieldWW.Tabs V) => fadd_any (lit 200 0) (lit 100 0) rfl rfl V hV.1
  have CI := fun V (hV : FieldWW.Tabs V) => finv_any (lit 2 0) rfl V hV.1
  have C9 := fun V (hV : FieldWW.Tabs V) => froot_any (lit 9 0) rfl V hV
  have C2 := fun V (hV : FieldWW.Tabs V) => froot_any (lit 2 0) rfl V hV
  rw [add_300] at CA
  rw [inv_two] at CI
  rw [root_nine] at C9
  rw [root_two] at C2
  replace CA := Lib.hid CA
  replace CI := Lib.hid CI
  replace C9 := Lib.hid C9
  replace C2 := Lib.hid C2
  have N441 := Lib.hid (bc32 (lit_len 44 1))
  have NH := Lib.hid (bc32 half_len)
  have NM := Lib.hid (bc32 mthree_len)
  have NZ := Lib.hid (bc32 zeros_len)
  have X := Lib.hid (Below.refl w.heap.size w)
  obtain ⟨S441, h441⟩ : ∃ l, lit 44 1 = l := ⟨_, rfl⟩
  obtain ⟨SH, hH⟩ : ∃ l, half = l := ⟨_, rfl⟩
  obtain ⟨SM, hM⟩ : ∃ l, mthree = l := ⟨_, rfl⟩
  obtain ⟨SZ, hZ⟩ : ∃ l, zeros = l := ⟨_, rfl⟩
  rw [h441] at CA N441
  rw [hH] at CI NH
  rw [hM] at C9 NM
  rw [hZ] at C2 NZ
  have E441 := Lib.hid h441
  have EH := Lib.hid hH
  have EM := Lib.hid hM
  clear h441 hH hM hZ
  have H200 := Lib.hid b200
  have H100 := Lib.hid b100
  have H2 := Lib.hid b2
  have H3 := Lib.hid b3
  have H9 := Lib.hid b9
  have H441 := Lib.hid b441
  obtain ⟨K200, e200⟩ : ∃ l, lit 200 0 = l := ⟨_, rfl⟩
  obtain ⟨K100, e100⟩ : ∃ l, lit 100 0 = l := ⟨_, rfl⟩
  obtain ⟨K2, e2⟩ : ∃ l, lit 2 0 = l := ⟨_, rfl⟩
  obtain ⟨K3, e3⟩ : ∃ l, lit 3 0 = l := ⟨_, rfl⟩
  obtain ⟨K9, e9⟩ : ∃ l, lit 9 0 = l := ⟨_, rfl⟩
  have E3 := Lib.hid e3
  rw [e200, e100] at CA
  rw [e2] at CI C2
  rw [e9] at C9
  rw [e200] at H200
  rw [e100] at H100
  rw [e2] at H2
  rw [e3] at H3
  rw [e9] at H9
  clear e200 e100 e2 e3 e9
  go_enter Tryd.func24, Tryd.ntmps24
  go_wp2_with (first | (show wpList _ _ _ (⟨_, Op.build _ #[(0, .const (.int .u8 200))], _, _, _, _⟩ :: _) _ _; refine ArrL.buildL rfl rfl rfl (H200.out _) ?_) | (show wpList _ _ _ (⟨_, Op.build _ #[(0, .const (.int .u8 100))], _, _, _, _⟩ :: _) _ _; refine ArrL.buildL rfl rfl rfl (H100.out _) ?_))
  refine (CA.out _ (by assumption)).mono ?_
  clear CA
  rintro e v1 ⟨rfl, b1⟩
  try have htv1 : FieldWW.Tabs v1 := FieldWW.Tabs.below (by assumption) b1
  replace X := Lib.hid (X.out.trans (b1.mono X.out.size))
  clear b1
  go_upto_region 2 with (show wpList _ _ _ (⟨_, Op.store _ _ _, _, _, _, _⟩ :: _) _ _; refine Arr.storeL (Arr.new v1 _ _) rfl 23 (.tmp 1) (.tmp 13) rfl rfl (Lib.byteCells S441) rfl num_size (by rfl) N441.out (bytes_one _) ?_)
  generalize hw : World.setRow _ _ _ = v2
  obtain ⟨p2, b2, z2⟩ := filled hw
  try have htv2 : FieldWW.Tabs v2 := FieldWW.Tabs.below (by assumption) b2
  replace X := Lib.hid (X.out.trans (b2.mono X.out.size))
  obtain ⟨g1, hg1⟩ : ∃ g, v1.heap.size = g := ⟨_, rfl⟩
  rw [hg1] at p2 ⊢
  have P1 := Lib.hid p2
  clear p2 b2 z2 hw hg1
  go_wp2_with (first | (show wpList _ _ _ (⟨_, Op.build _ #[(0, .const (.int .u8 2))], _, _, _, _⟩ :: _) _ _; refine ArrL.buildL rfl rfl rfl (H2.out _) ?_))
  refine (CI.out _ (by assumption)).mono ?_
  clear CI
  rintro e v3 ⟨rfl, b3⟩
  try have htv3 : FieldWW.Tabs v3 := FieldWW.Tabs.below (by assumption) b3
  replace P1 := Lib.hid (P1.out.below b3 P1.out.lt)
  replace X := Lib.hid (X.out.trans (b3.mono X.out.size))
  clear b3
  go_upto_region 3 with (show wpList _ _ _ (⟨_, Op.store _ _ _, _, _, _, _⟩ :: _) _ _; refine Arr.storeL (Arr.new v3 _ _) rfl 23 (.tmp 3) (.tmp 18) rfl rfl (Lib.byteCells SH) rfl num_size (by rfl) NH.out (bytes_one _) ?_)
  generalize hw : World.setRow _ _ _ = v4
  obtain ⟨p4, b4, z4⟩ := filled hw
  try have htv4 : FieldWW.Tabs v4 := FieldWW.Tabs.below (by assumption) b4
  replace P1 := Lib.hid (P1.out.below b4 P1.out.lt)
  replace X := Lib.hid (X.out.trans (b4.mono X.out.size))
  obtain ⟨g3, hg3⟩ : ∃ g, v3.heap.size = g := ⟨_, rfl⟩
  rw [hg3] at p4 ⊢
  have P3 := Lib.hid p4
  clear p4 b4 z4 hw hg3
  go_wp2_with (first | (show wpList _ _ _ (⟨_, Op.build _ #[(0, .const (.int .u8 9))], _, _, _, _⟩ :: _) _ _; refine ArrL.buildL rfl rfl rfl (H9.out _) ?_))
  refine (C9.out _ (by assumption)).mono ?_
  clear C9
  rintro e v5 ⟨rfl, b5⟩
  try have htv5 : FieldWW.Tabs v5 := FieldWW.Tabs.below (by assumption) b5
  replace P1 := Lib.hid (P1.out.below b5 P1.out.lt)
  replace P3 := Lib.hid (P3.out.below b5 P3.out.lt)
  replace X := Lib.hid (X.out.trans (b5.mono X.out.size))
  clear b5
  go_upto_region 4 with (show wpList _ _ _ (⟨_, Op.store _ _ _, _, _, _, _⟩ :: _) _ _; refine Arr.storeL (Arr.new v5 _ _) rfl 23 (.tmp 5) (.tmp 23) rfl rfl (Lib.byteCells SM) rfl num_size (by rfl) NM.out (bytes_one _) ?_)
  generalize hw : World.setRow _ _ _ = v6
  obtain ⟨p6, b6, z6⟩ := filled hw
  try have htv6 : FieldWW.Tabs v6 := FieldWW.Tabs.below (by assumption) b6
  replace P1 := Lib.hid (P1.out.below b6 P1.out.lt)
  replace P3 := Lib.hid (P3.out.below b6 P3.out.lt)
  replace X := Lib.hid (X.out.trans (b6.mono X.out.size))
  obtain ⟨g5, hg5⟩ : ∃ g, v5.heap.size = g := ⟨_, rfl⟩
  rw [hg5] at p6 ⊢
  have P5 := Lib.hid p6
  clear p6 b6 z6 hw hg5
  go_wp2_with (first | (show wpList _ _ _ (⟨_, Op.build _ #[(0, .const (.int .u8 2))], _, _, _, _⟩ :: _) _ _; refine ArrL.buildL rfl rfl rfl (H2.out _) ?_))
  refine (C2.out _ (by assumption)).mono ?_
  clear C2
  rintro e v7 ⟨rfl, b7⟩
  try have htv7 : FieldWW.Tabs v7 := FieldWW.Tabs.below (by assumption) b7
  replace P1 := Lib.hid (P1.out.below b7 P1.out.lt)
  replace P3 := Lib.hid (P3.out.below b7 P3.out.lt)
  replace P5 := Lib.hid (P5.out.below b7 P5.out.lt)
  replace X := Lib.hid (X.out.trans (b7.mono X.out.size))
  clear b7
  go_upto_region 5 with (show wpList _ _ _ (⟨_, Op.store _ _ _, _, _, _, _⟩ :: _) _ _; refine Arr.storeL (Arr.new v7 _ _) rfl 23 (.tmp 7) (.tmp 28) rfl rfl (Lib.byteCells SZ) rfl num_size (by rfl) NZ.out (bytes_one _) ?_)
  generalize hw : World.setRow _ _ _ = v8
  obtain ⟨p8, b8, z8⟩ := filled hw
  try have htv8 : FieldWW.Tabs v8 := FieldWW.Tabs.below (by assumption) b8
  replace P1 := Lib.hid (P1.out.below b8 P1.out.lt)
  replace P3 := Lib.hid (P3.out.below b8 P3.out.lt)
  replace P5 := Lib.hid (P5.out.below b8 P5.out.lt)
  replace X := Lib.hid (X.out.trans (b8.mono X.out.size))
  obtain ⟨g7, hg7⟩ : ∃ g, v7.heap.size = g := ⟨_, rfl⟩
  rw [hg7] at p8 ⊢
  have P7 := Lib.hid p8
  clear p8 b8 z8 hw hg7
  rw [← E441.out] at P1 N441
  have c30 : v8.cell? ⟨g3, 0, none⟩ = some (.int .u8 247) := (P3.out.cell 0).trans (bc_at SH 0 247 (by rw [← EH.out]; decide +kernel))
  have c31 : v8.cell? ⟨g3, 31, none⟩ = some (.int .u8 63) := (P3.out.cell 31).trans (bc_at SH 31 63 (by rw [← EH.out]; decide +kernel))
  have c50 : v8.cell? ⟨g5, 0, none⟩ = some (.int .u8 234) := (P5.out.cell 0).trans (bc_at SM 0 234 (by rw [← EM.out]; decide +kernel))
  have q1 := eqn_same (lit 44 1) rfl v8
  have q2 := eqn SM K3 (by rw [← EM.out]; exact mthree_len) (by rw [← E3.out]; rfl) v8
  rw [decide_eq_false (show ¬ SM = K3 by rw [← EM.out, ← E3.out]; decide +kernel)] at q2
  obtain ⟨R, hR⟩ : ∃ l, lit 44 1 = l := ⟨_, rfl⟩
  rw [hR] at P1 N441 q1 H441
  clear hR E441 EH EM E3
  go_wp2_with (first | (show wpList _ _ _ (⟨_, Op.load _ (.tmp 1), _, _, _, _⟩ :: _) _ _; refine ArrL.loadLg P1.out (by rfl) 23 (.tmp 1) rfl rfl num_u rfl num_size N441.out ?_) | (show wpList _ _ _ (⟨_, Op.load _ (.tmp 5), _, _, _, _⟩ :: _) _ _; refine ArrL.loadLg P5.out (by rfl) 23 (.tmp 5) rfl rfl num_u rfl num_size NM.out ?_) | (show wpList _ _ _ (⟨_, Op.build _ #[(0, .const (.int .u8 44)), (1, .const (.int .u8 1))], _, _, _, _⟩ :: _) _ _; refine ArrL.buildLg (by rfl) rfl rfl (H441.out _) ?_) | (show wpList _ _ _ (⟨_, Op.build _ #[(0, .const (.int .u8 3))], _, _, _, _⟩ :: _) _ _; refine ArrL.buildLg (by rfl) rfl rfl (H3.out _) ?_))
  go_ret
  exact ⟨rfl, X.out⟩
end Go.Proofs.YtfngomlknhappaaDoor.FieldAliveW
