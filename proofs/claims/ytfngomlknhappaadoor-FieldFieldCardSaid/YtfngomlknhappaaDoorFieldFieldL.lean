/-
  The walk of ticketwardkeep.FieldField: it returns true and writes nothing that was there. Conditions: none.
-/
import Derived.Test.YtfngomlknhappaaDoorFieldAlive
import Derived.Test.YtfngomlknhappaaDoorKn
import Derived.Test.YtfngomlknhappaaDoorArrT
import Derived.BigGuard
import Derived.BigQuiet
import Derived.Outline
import Derived.Deep.DeepMust
import Derived.StillTailTactics
import Derived.Deep.DeepCutAuto
namespace Go.Proofs.YtfngomlknhappaaDoor.FieldFieldL
open Go.RowKit BytesW ArrW ArrG ArrL ArrT FieldLW FieldAliveW FieldM NumA NumF FieldTW FieldSumW

set_option maxHeartbeats 4000000 in
set_option maxRecDepth 100000 in
theorem walk (l0 : List UInt8) (hl0 : l0.length = 32) (l1 : List UInt8) (hl1 : l1.length = 32) (l2 : List UInt8) (hl2 : l2.length = 32) (w : World) (hL : FieldWW.Tabs w) : Calls Tryd.prog 5 #[.agg (Lib.byteCells l0).toArray, .agg (Lib.byteCells l1).toArray, .agg (Lib.byteCells l2).toArray] w fun e w' => e = .returned (.bool true) ∧ Below w.heap.size w w' := by
  have N0 := Lib.hid (bc32 hl0)
  have L0 := Lib.hid hl0
  have N1 := Lib.hid (bc32 hl1)
  have L1 := Lib.hid hl1
  have N2 := Lib.hid (bc32 hl2)
  have L2 := Lib.hid hl2
  have CR0 := Lib.hid (fun V (hV : FieldWW.Tabs V) => fright_any l0 hl0 V hV.1)
  have CR1 := Lib.hid (fun V (hV : FieldWW.Tabs V) => fright_any l1 hl1 V hV.1)
  have CR2 := Lib.hid (fun V (hV : FieldWW.Tabs V) => fright_any l2 hl2 V hV.1)
  clear hl0 hl1 hl2
  go_enter Tryd.func5, Tryd.ntmps5
  go_upto_region 1 with (fail)
  generalize hW : World.alloc _ _ = v0
  obtain ⟨a0, a1, a2, b0, z0⟩ := start3 hW
  try have htv0 : FieldWW.Tabs v0 := FieldWW.Tabs.below (by assumption) b0
  have X := Lib.hid b0
  obtain ⟨g3, hg3⟩ : ∃ g, w.heap.size = g := ⟨_, rfl⟩
  obtain ⟨g4, hg4⟩ : ∃ g, g3 + 1 = g := ⟨_, rfl⟩
  obtain ⟨g5, hg5⟩ : ∃ g, g4 + 1 = g := ⟨_, rfl⟩
  try simp only [hg3, hg4, hg5]
  have P3 : Hid (Arr v0 g3 23 (Lib.byteCells l0)) := Lib.hid (by rw [show g3 = w.heap.size by omega]; exact a0)
  have P4 : Hid (Arr v0 g4 23 (Lib.byteCells l1)) := Lib.hid (by rw [show g4 = w.heap.size + 1 by omega]; exact a1)
  have P5 : Hid (Arr v0 g5 23 (Lib.byteCells l2)) := Lib.hid (by rw [show g5 = w.heap.size + 2 by omega]; exact a2)
  clear hW z0 b0 a0 a1 a2 hg3 hg4 hg5
  go_wp2_with (fail)
  refine (alive11 _ (by assumption)).mono ?_
  rintro e v1 ⟨rfl, b1⟩
  try have htv1 : FieldWW.Tabs v1 := FieldWW.Tabs.below (by assumption) b1
  replace P3 := Lib.hid (P3.out.below b1 P3.out.lt)
  replace P4 := Lib.hid (P4.out.below b1 P4.out.lt)
  replace P5 := Lib.hid (P5.out.below b1 P5.out.lt)
  replace X := Lib.hid (X.out.trans (b1.mono X.out.size))
  clear b1
  by_cases h0 : leN l0 < P
  rotate_left
  · rw [decide_eq_false h0] at CR0
    clear h0
    go_wp2_with (first | (show wpList _ _ _ (⟨_, Op.load _ (.tmp 3), _, _, _, _⟩ :: _) _ _; refine Arr.loadL P3.out rfl 23 (.tmp 3) rfl rfl num_u rfl num_size N0.out ?_))
    refine (CR0.out _ (by assumption)).mono ?_
    rintro e v2 ⟨rfl, b2⟩
    try have htv2 : FieldWW.Tabs v2 := FieldWW.Tabs.below (by assumption) b2
    replace P3 := Lib.hid (P3.out.below b2 P3.out.lt)
    replace P4 := Lib.hid (P4.out.below b2 P4.out.lt)
    replace P5 := Lib.hid (P5.out.below b2 P5.out.lt)
    replace X := Lib.hid (X.out.trans (b2.mono X.out.size))
    clear b2
    go_wp2_with (first | (show wpList _ _ _ (⟨_, Op.load _ (.tmp 3), _, _, _, _⟩ :: _) _ _; refine ArrL.loadLg P3.out (by rfl) 23 (.tmp 3) rfl rfl num_u rfl num_size N0.out ?_) | (show wpList _ _ _ (⟨_, Op.load _ (.tmp 4), _, _, _, _⟩ :: _) _ _; refine ArrL.loadLg P4.out (by rfl) 23 (.tmp 4) rfl rfl num_u rfl num_size N1.out ?_) | (show wpList _ _ _ (⟨_, Op.load _ (.tmp 5), _, _, _, _⟩ :: _) _ _; refine ArrL.loadLg P5.out (by rfl) 23 (.tmp 5) rfl rfl num_u rfl num_size N2.out ?_) | (show wpList _ _ _ (⟨_, Op.load _ (.tmp 3), _, _, _, _⟩ :: _) _ _; refine Arr.loadL P3.out rfl 23 (.tmp 3) rfl rfl num_u rfl num_size N0.out ?_) | (show wpList _ _ _ (⟨_, Op.load _ (.tmp 4), _, _, _, _⟩ :: _) _ _; refine Arr.loadL P4.out rfl 23 (.tmp 4) rfl rfl num_u rfl num_size N1.out ?_) | (show wpList _ _ _ (⟨_, Op.load _ (.tmp 5), _, _, _, _⟩ :: _) _ _; refine Arr.loadL P5.out rfl 23 (.tmp 5) rfl rfl num_u rfl num_size N2.out ?_))
    go_ret
    exact ⟨rfl, X.out⟩
  by_cases h1 : leN l1 < P
  rotate_left
  · rw [decide_eq_false h1] at CR1
    rw [decide_eq_true h0] at CR0
    clear h0 h1
    go_wp2_with (first | (show wpList _ _ _ (⟨_, Op.load _ (.tmp 3), _, _, _, _⟩ :: _) _ _; refine Arr.loadL P3.out rfl 23 (.tmp 3) rfl rfl num_u rfl num_size N0.out ?_))
    refine (CR0.out _ (by assumption)).mono ?_
    rintro e v2 ⟨rfl, b2⟩
    try have htv2 : FieldWW.Tabs v2 := FieldWW.Tabs.below (by assumption) b2
    replace P3 := Lib.hid (P3.out.below b2 P3.out.lt)
    replace P4 := Lib.hid (P4.out.below b2 P4.out.lt)
    replace P5 := Lib.hid (P5.out.below b2 P5.out.lt)
    replace X := Lib.hid (X.out.trans (b2.mono X.out.size))
    clear b2
    go_wp2_with (first | (show wpList _ _ _ (⟨_, Op.load _ (.tmp 4), _, _, _, _⟩ :: _) _ _; refine ArrL.loadLg P4.out (by rfl) 23 (.tmp 4) rfl rfl num_u rfl num_size N1.out ?_))
    refine (CR1.out _ (by assumption)).mono ?_
    rintro e v3 ⟨rfl, b3⟩
    try have htv3 : FieldWW.Tabs v3 := FieldWW.Tabs.below (by assumption) b3
    replace P3 := Lib.hid (P3.out.below b3 P3.out.lt)
    replace P4 := Lib.hid (P4.out.below b3 P4.out.lt)
    replace P5 := Lib.hid (P5.out.below b3 P5.out.lt)
    replace X := Lib.hid (X.out.trans (b3.mono X.out.size))
    clear b3
    go_wp2_with (first | (show wpList _ _ _ (⟨_, Op.load _ (.tmp 3), _, _, _, _⟩ :: _) _ _; refine ArrL.loadLg P3.out (by rfl) 23 (.tmp 3) rfl rfl num_u rfl num_size N0.out ?_) | (show wpList _ _ _ (⟨_, Op.load _ (.tmp 4), _, _, _, _⟩ :: _) _ _; refine ArrL.loadLg P4.out (by rfl) 23 (.tmp 4) rfl rfl num_u rfl num_size N1.out ?_) | (show wpList _ _ _ (⟨_, Op.load _ (.tmp 5), _, _, _, _⟩ :: _) _ _; refine ArrL.loadLg P5.out (by rfl) 23 (.tmp 5) rfl rfl num_u rfl num_size N2.out ?_) | (show wpList _ _ _ (⟨_, Op.load _ (.tmp 3), _, _, _, _⟩ :: _) _ _; refine Arr.loadL P3.out rfl 23 (.tmp 3) rfl rfl num_u rfl num_size N0.out ?_) | (show wpList _ _ _ (⟨_, Op.load _ (.tmp 4), _, _, _, _⟩ :: _) _ _; refine Arr.loadL P4.out rfl 23 (.tmp 4) rfl rfl num_u rfl num_size N1.out ?_) | (show wpList _ _ _ (⟨_, Op.load _ (.tmp 5), _, _, _, _⟩ :: _) _ _; refine Arr.loadL P5.out rfl 23 (.tmp 5) rfl rfl num_u rfl num_size N2.out ?_))
    go_ret
    exact ⟨rfl, X.out⟩
  by_cases h2 : leN l2 < P
  rotate_left
  · rw [decide_eq_false h2] at CR2
    rw [decide_eq_true h0] at CR0
    rw [decide_eq_true h1] at CR1
    clear h0 h1 h2
    go_wp2_with (first | (show wpList _ _ _ (⟨_, Op.load _ (.tmp 3), _, _, _, _⟩ :: _) _ _; refine Arr.loadL P3.out rfl 23 (.tmp 3) rfl rfl num_u rfl num_size N0.out ?_))
    refine (CR0.out _ (by assumption)).mono ?_
    rintro e v2 ⟨rfl, b2⟩
    try have htv2 : FieldWW.Tabs v2 := FieldWW.Tabs.below (by assumption) b2
    replace P3 := Lib.hid (P3.out.below b2 P3.out.lt)
    replace P4 := Lib.hid (P4.out.below b2 P4.out.lt)
    replace P5 := Lib.hid (P5.out.below b2 P5.out.lt)
    replace X := Lib.hid (X.out.trans (b2.mono X.out.size))
    clear b2
    go_wp2_with (first | (show wpList _ _ _ (⟨_, Op.load _ (.tmp 4), _, _, _, _⟩ :: _) _ _; refine ArrL.loadLg P4.out (by rfl) 23 (.tmp 4) rfl rfl num_u rfl num_size N1.out ?_))
    refine (CR1.out _ (by assumption)).mono ?_
    rintro e v3 ⟨rfl, b3⟩
    try have htv3 : FieldWW.Tabs v3 := FieldWW.Tabs.below (by assumption) b3
    replace P3 := Lib.hid (P3.out.below b3 P3.out.lt)
    replace P4 := Lib.hid (P4.out.below b3 P4.out.lt)
    replace P5 := Lib.hid (P5.out.below b3 P5.out.lt)
    replace X := Lib.hid (X.out.trans (b3.mono X.out.size))
    clear b3
    go_wp2_with (first | (show wpList _ _ _ (⟨_, Op.load _ (.tmp 5), _, _, _, _⟩ :: _) _ _; refine ArrL.loadLg P5.out (by rfl) 23 (.tmp 5) rfl rfl num_u rfl num_size N2.out ?_))
    refine (CR2.out _ (by assumption)).mono ?_
    rintro e v4 ⟨rfl, b4⟩
    try have htv4 : FieldWW.Tabs v4 := FieldWW.Tabs.below (by assumption) b4
    replace P3 := Lib.hid (P3.out.below b4 P3.out.lt)
    replace P4 := Lib.hid (P4.out.below b4 P4.out.lt)
    replace P5 := Lib.hid (P5.out.below b4 P5.out.lt)
    replace X := Lib.hid (X.out.trans (b4.mono X.out.size))
    clear b4
    go_wp2_with (first | (show wpList _ _ _ (⟨_, Op.load _ (.tmp 3), _, _, _, _⟩ :: _) _ _; refine ArrL.loadLg P3.out (by rfl) 23 (.tmp 3) rfl rfl num_u rfl num_size N0.out ?_) | (show wpList _ _ _ (⟨_, Op.load _ (.tmp 4), _, _, _, _⟩ :: _) _ _; refine ArrL.loadLg P4.out (by rfl) 23 (.tmp 4) rfl rfl num_u rfl num_size N1.out ?_) | (show wpList _ _ _ (⟨_, Op.load _ (.tmp 5), _, _, _, _⟩ :: _) _ _; refine ArrL.loadLg P5.out (by rfl) 23 (.tmp 5) rfl rfl num_u rfl num_size N2.out ?_) | (show wpList _ _ _ (⟨_, Op.load _ (.tmp 3), _, _, _, _⟩ :: _) _ _; refine Arr.loadL P3.out rfl 23 (.tmp 3) rfl rfl num_u rfl num_size N0.out ?_) | (show wpList _ _ _ (⟨_, Op.load _ (.tmp 4), _, _, _, _⟩ :: _) _ _; refine Arr.loadL P4.out rfl 23 (.tmp 4) rfl rfl num_u rfl num_size N1.out ?_) | (show wpList _ _ _ (⟨_, Op.load _ (.tmp 5), _, _, _, _⟩ :: _) _ _; refine Arr.loadL P5.out rfl 23 (.tmp 5) rfl rfl num_u rfl num_size N2.out ?_))
    go_ret
    exact ⟨rfl, X.out⟩
  rw [decide_eq_true h0] at CR0
  rw [decide_eq_true h1] at CR1
  rw [decide_eq_true h2] at CR2
  go_wp2_with (first | (show wpList _ _ _ (⟨_, Op.load _ (.tmp 3), _, _, _, _⟩ :: _) _ _; refine Arr.loadL P3.out rfl 23 (.tmp 3) rfl rfl num_u rfl num_size N0.out ?_))
  refine (CR0.out _ (by assumption)).mono ?_
  rintro e v2 ⟨rfl, b2⟩
  try have htv2 : FieldWW.Tabs v2 := FieldWW.Tabs.below (by assumption) b2
  replace P3 := Lib.hid (P3.out.below b2 P3.out.lt)
  replace P4 := Lib.hid (P4.out.below b2 P4.out.lt)
  replace P5 := Lib.hid (P5.out.below b2 P5.out.lt)
  replace X := Lib.hid (X.out.trans (b2.mono X.out.size))
  clear b2
  go_wp2_with (first | (show wpList _ _ _ (⟨_, Op.load _ (.tmp 4), _, _, _, _⟩ :: _) _ _; refine ArrL.loadLg P4.out (by rfl) 23 (.tmp 4) rfl rfl num_u rfl num_size N1.out ?_))
  refine (CR1.out _ (by assumption)).mono ?_
  rintro e v3 ⟨rfl, b3⟩
  try have htv3 : FieldWW.Tabs v3 := FieldWW.Tabs.below (by assumption) b3
  replace P3 := Lib.hid (P3.out.below b3 P3.out.lt)
  replace P4 := Lib.hid (P4.out.below b3 P4.out.lt)
  replace P5 := Lib.hid (P5.out.below b3 P5.out.lt)
  replace X := Lib.hid (X.out.trans (b3.mono X.out.size))
  clear b3
  go_wp2_with (first | (show wpList _ _ _ (⟨_, Op.load _ (.tmp 5), _, _, _, _⟩ :: _) _ _; refine ArrL.loadLg P5.out (by rfl) 23 (.tmp 5) rfl rfl num_u rfl num_size N2.out ?_))
  refine (CR2.out _ (by assumption)).mono ?_
  rintro e v4 ⟨rfl, b4⟩
  try have htv4 : FieldWW.Tabs v4 := FieldWW.Tabs.below (by assumption) b4
  replace P3 := Lib.hid (P3.out.below b4 P3.out.lt)
  replace P4 := Lib.hid (P4.out.below b4 P4.out.lt)
  replace P5 := Lib.hid (P5.out.below b4 P5.out.lt)
  replace X := Lib.hid (X.out.trans (b4.mono X.out.size))
  clear b4
  clear CR0 CR1 CR2
  obtain ⟨A, e0⟩ := as_toL L0.out h0
  obtain ⟨B, e1⟩ := as_toL L1.out h1
  obtain ⟨C, e2⟩ := as_toL L2.out h2
  obtain ⟨S, hS⟩ : ∃ l, toL (B + C) = l := ⟨_, rfl⟩
  have NS := Lib.hid (bc32 (show S.length = 32 by rw [← hS]; exact toL_len _))
  have LS := Lib.hid (show S.length = 32 by rw [← hS]; exact toL_len _)
  obtain ⟨T, hT⟩ : ∃ l, toL (A * (B + C)) = l := ⟨_, rfl⟩
  have NT := Lib.hid (bc32 (show T.length = 32 by rw [← hT]; exact toL_len _))
  have LT := Lib.hid (show T.length = 32 by rw [← hT]; exact toL_len _)
  obtain ⟨Q, hQ⟩ : ∃ l, toL (A * B) = l := ⟨_, rfl⟩
  have NQ := Lib.hid (bc32 (show Q.length = 32 by rw [← hQ]; exact toL_len _))
  have LQ := Lib.hid (show Q.length = 32 by rw [← hQ]; exact toL_len _)
  obtain ⟨R, hR⟩ : ∃ l, toL (A * C) = l := ⟨_, rfl⟩
  have NR := Lib.hid (bc32 (show R.length = 32 by rw [← hR]; exact toL_len _))
  have LR := Lib.hid (show R.length = 32 by rw [← hR]; exact toL_len _)
  obtain ⟨D, hD⟩ : ∃ l, toL (A - B) = l := ⟨_, rfl⟩
  have ND := Lib.hid (bc32 (show D.length = 32 by rw [← hD]; exact toL_len _))
  have LD := Lib.hid (show D.length = 32 by rw [← hD]; exact toL_len _)
  have r1 : A * B + A * C = A * (B + C) := by grind
  have r2 : A - B + B = A := by grind
  have r3 : B * A = A * B := by grind
  have K1 := fun V (hV : FieldWW.Tabs V) => fadd_any l1 l2 L1.out L2.out V hV.1
  rw [show addM l1 l2 = (S, 0) by rw [e1, e2, addT, hS]] at K1
  replace K1 := Lib.hid K1
  have K2 := fun V (hV : FieldWW.Tabs V) => fmul_any l0 S L0.out LS.out V hV.1
  rw [show mulM l0 S = (T, 0) by rw [e0, ← hS, mulT, hT]] at K2
  replace K2 := Lib.hid K2
  have K3 := fun V (hV : FieldWW.Tabs V) => fmul_any l0 l1 L0.out L1.out V hV.1
  rw [show mulM l0 l1 = (Q, 0) by rw [e0, e1, mulT, hQ]] at K3
  replace K3 := Lib.hid K3
  have K4 := fun V (hV : FieldWW.Tabs V) => fmul_any l0 l2 L0.out L2.out V hV.1
  rw [show mulM l0 l2 = (R, 0) by rw [e0, e2, mulT, hR]] at K4
  replace K4 := Lib.hid K4
  have K5 := fun V (hV : FieldWW.Tabs V) => fadd_any Q R LQ.out LR.out V hV.1
  rw [show addM Q R = (T, 0) by rw [← hQ, ← hR, addT, r1, hT]] at K5
  replace K5 := Lib.hid K5
  have K6 := fun V (hV : FieldWW.Tabs V) => fsub_any l0 l1 L0.out L1.out V hV.1
  rw [show subM l0 l1 = (D, 0) by rw [e0, e1, subT, hD]] at K6
  replace K6 := Lib.hid K6
  have K7 := fun V (hV : FieldWW.Tabs V) => fadd_any D l1 LD.out L1.out V hV.1
  rw [show addM D l1 = (l0, 0) by rw [← hD, e1, addT, r2, e0]] at K7
  replace K7 := Lib.hid K7
  have K8 := fun V (hV : FieldWW.Tabs V) => fmul_any l1 l0 L1.out L0.out V hV.1
  rw [show mulM l1 l0 = (Q, 0) by rw [e0, e1, mulT, r3, hQ]] at K8
  replace K8 := Lib.hid K8
  clear r1 r2 r3 hS hT hQ hR hD e0 e1 e2 h0 h1 h2
  go_wp2_with (first | (show wpList _ _ _ (⟨_, Op.load _ (.tmp 4), _, _, _, _⟩ :: _) _ _; refine Arr.loadL P4.out rfl 23 (.tmp 4) rfl rfl num_u rfl num_size N1.out ?_) | (show wpList _ _ _ (⟨_, Op.load _ (.tmp 5), _, _, _, _⟩ :: _) _ _; refine Arr.loadL P5.out rfl 23 (.tmp 5) rfl rfl num_u rfl num_size N2.out ?_))
  refine (K1.out _ (by assumption)).mono ?_
  rintro e v5 ⟨rfl, b5⟩
  try have htv5 : FieldWW.Tabs v5 := FieldWW.Tabs.below (by assumption) b5
  replace P3 := Lib.hid (P3.out.below b5 P3.out.lt)
  replace P4 := Lib.hid (P4.out.below b5 P4.out.lt)
  replace P5 := Lib.hid (P5.out.below b5 P5.out.lt)
  replace X := Lib.hid (X.out.trans (b5.mono X.out.size))
  clear b5
  clear K1
  go_upto_region 6 with (show wpList _ _ _ (⟨_, Op.store _ _ _, _, _, _, _⟩ :: _) _ _; refine Arr.storeL (Arr.new v5 _ _) rfl 23 (.tmp 7) (.tmp 42) rfl rfl (Lib.byteCells S) rfl num_size (by rfl) NS.out (bytes_one _) ?_)
  generalize hw : World.setRow _ _ _ = v6
  obtain ⟨p6, b6, z6⟩ := filled hw
  try have htv6 : FieldWW.Tabs v6 := FieldWW.Tabs.below (by assumption) b6
  replace P3 := Lib.hid (P3.out.below b6 P3.out.lt)
  replace P4 := Lib.hid (P4.out.below b6 P4.out.lt)
  replace P5 := Lib.hid (P5.out.below b6 P5.out.lt)
  replace X := Lib.hid (X.out.trans (b6.mono X.out.size))
  obtain ⟨g7, hg7⟩ : ∃ g, v5.heap.size = g := ⟨_, rfl⟩
  rw [hg7] at p6 ⊢
  have P7 := Lib.hid p6
  clear p6 b6 z6 hw hg7
  go_wp2_with (first | (show wpList _ _ _ (⟨_, Op.load _ (.tmp 3), _, _, _, _⟩ :: _) _ _; refine Arr.loadL P3.out rfl 23 (.tmp 3) rfl rfl num_u rfl num_size N0.out ?_) | (show wpList _ _ _ (⟨_, Op.load _ (.tmp 7), _, _, _, _⟩ :: _) _ _; refine Arr.loadL P7.out rfl 23 (.tmp 7) rfl rfl num_u rfl num_size NS.out ?_))
  refine (K2.out _ (by assumption)).mono ?_
  rintro e v7 ⟨rfl, b7⟩
  try have htv7 : FieldWW.Tabs v7 := FieldWW.Tabs.below (by assumption) b7
  replace P3 := Lib.hid (P3.out.below b7 P3.out.lt)
  replace P4 := Lib.hid (P4.out.below b7 P4.out.lt)
  replace P5 := Lib.hid (P5.out.below b7 P5.out.lt)
  replace P7 := Lib.hid (P7.out.below b7 P7.out.lt)
  replace X := Lib.hid (X.out.trans (b7.mono X.out.size))
  clear b7
  clear K2
  go_upto_region 7 with (show wpList _ _ _ (⟨_, Op.store _ _ _, _, _, _, _⟩ :: _) _ _; refine Arr.storeL (Arr.new v7 _ _) rfl 23 (.tmp 9) (.tmp 48) rfl rfl (Lib.byteCells T) rfl num_size (by rfl) NT.out (bytes_one _) ?_)
  generalize hw : World.setRow _ _ _ = v8
  obtain ⟨p8, b8, z8⟩ := filled hw
  try have htv8 : FieldWW.Tabs v8 := FieldWW.Tabs.below (by assumption) b8
  replace P3 := Lib.hid (P3.out.below b8 P3.out.lt)
  replace P4 := Lib.hid (P4.out.below b8 P4.out.lt)
  replace P5 := Lib.hid (P5.out.below b8 P5.out.lt)
  replace P7 := Lib.hid (P7.out.below b8 P7.out.lt)
  replace X := Lib.hid (X.out.trans (b8.mono X.out.size))
  obtain ⟨g9, hg9⟩ : ∃ g, v7.heap.size = g := ⟨_, rfl⟩
  rw [hg9] at p8 ⊢
  have P9 := Lib.hid p8
  clear p8 b8 z8 hw hg9
  go_wp2_with (first | (show wpList _ _ _ (⟨_, Op.load _ (.tmp 3), _, _, _, _⟩ :: _) _ _; refine Arr.loadL P3.out rfl 23 (.tmp 3) rfl rfl num_u rfl num_size N0.out ?_) | (show wpList _ _ _ (⟨_, Op.load _ (.tmp 4), _, _, _, _⟩ :: _) _ _; refine Arr.loadL P4.out rfl 23 (.tmp 4) rfl rfl num_u rfl num_size N1.out ?_))
  refine (K3.out _ (by assumption)).mono ?_
  rintro e v9 ⟨rfl, b9⟩
  try have htv9 : FieldWW.Tabs v9 := FieldWW.Tabs.below (by assumption) b9
  replace P3 := Lib.hid (P3.out.below b9 P3.out.lt)
  replace P4 := Lib.hid (P4.out.below b9 P4.out.lt)
  replace P5 := Lib.hid (P5.out.below b9 P5.out.lt)
  replace P7 := Lib.hid (P7.out.below b9 P7.out.lt)
  replace P9 := Lib.hid (P9.out.below b9 P9.out.lt)
  replace X := Lib.hid (X.out.trans (b9.mono X.out.size))
  clear b9
  clear K3
  go_upto_region 8 with (show wpList _ _ _ (⟨_, Op.store _ _ _, _, _, _, _⟩ :: _) _ _; refine Arr.storeL (Arr.new v9 _ _) rfl 23 (.tmp 11) (.tmp 54) rfl rfl (Lib.byteCells Q) rfl num_size (by rfl) NQ.out (bytes_one _) ?_)
  generalize hw : World.setRow _ _ _ = v10
  obtain ⟨p10, b10, z10⟩ := filled hw
  try have htv10 : FieldWW.Tabs v10 := FieldWW.Tabs.below (by assumption) b10
  replace P3 := Lib.hid (P3.out.below b10 P3.out.lt)
  replace P4 := Lib.hid (P4.out.below b10 P4.out.lt)
  replace P5 := Lib.hid (P5.out.below b10 P5.out.lt)
  replace P7 := Lib.hid (P7.out.below b10 P7.out.lt)
  replace P9 := Lib.hid (P9.out.below b10 P9.out.lt)
  replace X := Lib.hid (X.out.trans (b10.mono X.out.size))
  obtain ⟨g11, hg11⟩ : ∃ g, v9.heap.size = g := ⟨_, rfl⟩
  rw [hg11] at p10 ⊢
  have P11 := Lib.hid p10
  clear p10 b10 z10 hw hg11
  go_wp2_with (first | (show wpList _ _ _ (⟨_, Op.load _ (.tmp 3), _, _, _, _⟩ :: _) _ _; refine Arr.loadL P3.out rfl 23 (.tmp 3) rfl rfl num_u rfl num_size N0.out ?_) | (show wpList _ _ _ (⟨_, Op.load _ (.tmp 5), _, _, _, _⟩ :: _) _ _; refine Arr.loadL P5.out rfl 23 (.tmp 5) rfl rfl num_u rfl num_size N2.out ?_))
  refine (K4.out _ (by assumption)).mono ?_
  rintro e v11 ⟨rfl, b11⟩
  try have htv11 : FieldWW.Tabs v11 := FieldWW.Tabs.below (by assumption) b11
  replace P3 := Lib.hid (P3.out.below b11 P3.out.lt)
  replace P4 := Lib.hid (P4.out.below b11 P4.out.lt)
  replace P5 := Lib.hid (P5.out.below b11 P5.out.lt)
  replace P7 := Lib.hid (P7.out.below b11 P7.out.lt)
  replace P9 := Lib.hid (P9.out.below b11 P9.out.lt)
  replace P11 := Lib.hid (P11.out.below b11 P11.out.lt)
  replace X := Lib.hid (X.out.trans (b11.mono X.out.size))
  clear b11
  clear K4
  go_upto_region 9 with (show wpList _ _ _ (⟨_, Op.store _ _ _, _, _, _, _⟩ :: _) _ _; refine Arr.storeL (Arr.new v11 _ _) rfl 23 (.tmp 13) (.tmp 60) rfl rfl (Lib.byteCells R) rfl num_size (by rfl) NR.out (bytes_one _) ?_)
  generalize hw : World.setRow _ _ _ = v12
  obtain ⟨p12, b12, z12⟩ := filled hw
  try have htv12 : FieldWW.Tabs v12 := FieldWW.Tabs.below (by assumption) b12
  replace P3 := Lib.hid (P3.out.below b12 P3.out.lt)
  replace P4 := Lib.hid (P4.out.below b12 P4.out.lt)
  replace P5 := Lib.hid (P5.out.below b12 P5.out.lt)
  replace P7 := Lib.hid (P7.out.below b12 P7.out.lt)
  replace P9 := Lib.hid (P9.out.below b12 P9.out.lt)
  replace P11 := Lib.hid (P11.out.below b12 P11.out.lt)
  replace X := Lib.hid (X.out.trans (b12.mono X.out.size))
  obtain ⟨g13, hg13⟩ : ∃ g, v11.heap.size = g := ⟨_, rfl⟩
  rw [hg13] at p12 ⊢
  have P13 := Lib.hid p12
  clear p12 b12 z12 hw hg13
  go_wp2_with (first | (show wpList _ _ _ (⟨_, Op.load _ (.tmp 11), _, _, _, _⟩ :: _) _ _; refine Arr.loadL P11.out rfl 23 (.tmp 11) rfl rfl num_u rfl num_size NQ.out ?_) | (show wpList _ _ _ (⟨_, Op.load _ (.tmp 13), _, _, _, _⟩ :: _) _ _; refine Arr.loadL P13.out rfl 23 (.tmp 13) rfl rfl num_u rfl num_size NR.out ?_))
  refine (K5.out _ (by assumption)).mono ?_
  rintro e v13 ⟨rfl, b13⟩
  try have htv13 : FieldWW.Tabs v13 := FieldWW.Tabs.below (by assumption) b13
  replace P3 := Lib.hid (P3.out.below b13 P3.out.lt)
  replace P4 := Lib.hid (P4.out.below b13 P4.out.lt)
  replace P5 := Lib.hid (P5.out.below b13 P5.out.lt)
  replace P7 := Lib.hid (P7.out.below b13 P7.out.lt)
  replace P9 := Lib.hid (P9.out.below b13 P9.out.lt)
  replace P11 := Lib.hid (P11.out.below b13 P11.out.lt)
  replace P13 := Lib.hid (P13.out.below b13 P13.out.lt)
  replace X := Lib.hid (X.out.trans (b13.mono X.out.size))
  clear b13
  clear K5
  go_upto_region 10 with (show wpList _ _ _ (⟨_, Op.store _ _ _, _, _, _, _⟩ :: _) _ _; refine Arr.storeL (Arr.new v13 _ _) rfl 23 (.tmp 15) (.tmp 66) rfl rfl (Lib.byteCells T) rfl num_size (by rfl) NT.out (bytes_one _) ?_)
  generalize hw : World.setRow _ _ _ = v14
  obtain ⟨p14, b14, z14⟩ := filled hw
  try have htv14 : FieldWW.Tabs v14 := FieldWW.Tabs.below (by assumption) b14
  replace P3 := Lib.hid (P3.out.below b14 P3.out.lt)
  replace P4 := Lib.hid (P4.out.below b14 P4.out.lt)
  replace P5 := Lib.hid (P5.out.below b14 P5.out.lt)
  replace P7 := Lib.hid (P7.out.below b14 P7.out.lt)
  replace P9 := Lib.hid (P9.out.below b14 P9.out.lt)
  replace P11 := Lib.hid (P11.out.below b14 P11.out.lt)
  replace P13 := Lib.hid (P13.out.below b14 P13.out.lt)
  replace X := Lib.hid (X.out.trans (b14.mono X.out.size))
  obtain ⟨g15, hg15⟩ : ∃ g, v13.heap.size = g := ⟨_, rfl⟩
  rw [hg15] at p14 ⊢
  have P15 := Lib.hid p14
  clear p14 b14 z14 hw hg15
  go_wp2_with (first | (show wpList _ _ _ (⟨_, Op.load _ (.tmp 3), _, _, _, _⟩ :: _) _ _; refine Arr.loadL P3.out rfl 23 (.tmp 3) rfl rfl num_u rfl num_size N0.out ?_) | (show wpList _ _ _ (⟨_, Op.load _ (.tmp 4), _, _, _, _⟩ :: _) _ _; refine Arr.loadL P4.out rfl 23 (.tmp 4) rfl rfl num_u rfl num_size N1.out ?_))
  refine (K6.out _ (by assumption)).mono ?_
  rintro e v15 ⟨rfl, b15⟩
  try have htv15 : FieldWW.Tabs v15 := FieldWW.Tabs.below (by assumption) b15
  replace P3 := Lib.hid (P3.out.below b15 P3.out.lt)
  replace P4 := Lib.hid (P4.out.below b15 P4.out.lt)
  replace P5 := Lib.hid (P5.out.below b15 P5.out.lt)
  replace P7 := Lib.hid (P7.out.below b15 P7.out.lt)
  replace P9 := Lib.hid (P9.out.below b15 P9.out.lt)
  replace P11 := Lib.hid (P11.out.below b15 P11.out.lt)
  replace P13 := Lib.hid (P13.out.below b15 P13.out.lt)
  replace P15 := Lib.hid (P15.out.below b15 P15.out.lt)
  replace X := Lib.hid (X.out.trans (b15.mono X.out.size))
  clear b15
  clear K6
  go_upto_region 11 with (show wpList _ _ _ (⟨_, Op.store _ _ _, _, _, _, _⟩ :: _) _ _; refine Arr.storeL (Arr.new v15 _ _) rfl 23 (.tmp 17) (.tmp 72) rfl rfl (Lib.byteCells D) rfl num_size (by rfl) ND.out (bytes_one _) ?_)
  generalize hw : World.setRow _ _ _ = v16
  obtain ⟨p16, b16, z16⟩ := filled hw
  try have htv16 : FieldWW.Tabs v16 := FieldWW.Tabs.below (by assumption) b16
  replace P3 := Lib.hid (P3.out.below b16 P3.out.lt)
  replace P4 := Lib.hid (P4.out.below b16 P4.out.lt)
  replace P5 := Lib.hid (P5.out.below b16 P5.out.lt)
  replace P7 := Lib.hid (P7.out.below b16 P7.out.lt)
  replace P9 := Lib.hid (P9.out.below b16 P9.out.lt)
  replace P11 := Lib.hid (P11.out.below b16 P11.out.lt)
  replace P13 := Lib.hid (P13.out.below b16 P13.out.lt)
  replace P15 := Lib.hid (P15.out.below b16 P15.out.lt)
  replace X := Lib.hid (X.out.trans (b16.mono X.out.size))
  obtain ⟨g17, hg17⟩ : ∃ g, v15.heap.size = g := ⟨_, rfl⟩
  rw [hg17] at p16 ⊢
  have P17 := Lib.hid p16
  clear p16 b16 z16 hw hg17
  go_wp2_with (first | (show wpList _ _ _ (⟨_, Op.load _ (.tmp 17), _, _, _, _⟩ :: _) _ _; refine Arr.loadL P17.out rfl 23 (.tmp 17) rfl rfl num_u rfl num_size ND.out ?_) | (show wpList _ _ _ (⟨_, Op.load _ (.tmp 4), _, _, _, _⟩ :: _) _ _; refine Arr.loadL P4.out rfl 23 (.tmp 4) rfl rfl num_u rfl num_size N1.out ?_))
  refine (K7.out _ (by assumption)).mono ?_
  rintro e v17 ⟨rfl, b17⟩
  try have htv17 : FieldWW.Tabs v17 := FieldWW.Tabs.below (by assumption) b17
  replace P3 := Lib.hid (P3.out.below b17 P3.out.lt)
  replace P4 := Lib.hid (P4.out.below b17 P4.out.lt)
  replace P5 := Lib.hid (P5.out.below b17 P5.out.lt)
  replace P7 := Lib.hid (P7.out.below b17 P7.out.lt)
  replace P9 := Lib.hid (P9.out.below b17 P9.out.lt)
  replace P11 := Lib.hid (P11.out.below b17 P11.out.lt)
  replace P13 := Lib.hid (P13.out.below b17 P13.out.lt)
  replace P15 := Lib.hid (P15.out.below b17 P15.out.lt)
  replace P17 := Lib.hid (P17.out.below b17 P17.out.lt)
  replace X := Lib.hid (X.out.trans (b17.mono X.out.size))
  clear b17
  clear K7
  go_upto_region 12 with (show wpList _ _ _ (⟨_, Op.store _ _ _, _, _, _, _⟩ :: _) _ _; refine Arr.storeL (Arr.new v17 _ _) rfl 23 (.tmp 19) (.tmp 78) rfl rfl (Lib.byteCells l0) rfl num_size (by rfl) N0.out (bytes_one _) ?_)
  generalize hw : World.setRow _ _ _ = v18
  obtain ⟨p18, b18, z18⟩ := filled hw
  try have htv18 : FieldWW.Tabs v18 := FieldWW.Tabs.below (by assumption) b18
  replace P3 := Lib.hid (P3.out.below b18 P3.out.lt)
  replace P4 := Lib.hid (P4.out.below b18 P4.out.lt)
  replace P5 := Lib.hid (P5.out.below b18 P5.out.lt)
  replace P7 := Lib.hid (P7.out.below b18 P7.out.lt)
  replace P9 := Lib.hid (P9.out.below b18 P9.out.lt)
  replace P11 := Lib.hid (P11.out.below b18 P11.out.lt)
  replace P13 := Lib.hid (P13.out.below b18 P13.out.lt)
  replace P15 := Lib.hid (P15.out.below b18 P15.out.lt)
  replace P17 := Lib.hid (P17.out.below b18 P17.out.lt)
  replace X := Lib.hid (X.out.trans (b18.mono X.out.size))
  obtain ⟨g19, hg19⟩ : ∃ g, v17.heap.size = g := ⟨_, rfl⟩
  rw [hg19] at p18 ⊢
  have P19 := Lib.hid p18
  clear p18 b18 z18 hw hg19
  go_wp2_with (first | (show wpList _ _ _ (⟨_, Op.load _ (.tmp 4), _, _, _, _⟩ :: _) _ _; refine Arr.loadL P4.out rfl 23 (.tmp 4) rfl rfl num_u rfl num_size N1.out ?_) | (show wpList _ _ _ (⟨_, Op.load _ (.tmp 3), _, _, _, _⟩ :: _) _ _; refine Arr.loadL P3.out rfl 23 (.tmp 3) rfl rfl num_u rfl num_size N0.out ?_))
  refine (K8.out _ (by assumption)).mono ?_
  rintro e v19 ⟨rfl, b19⟩
  try have htv19 : FieldWW.Tabs v19 := FieldWW.Tabs.below (by assumption) b19
  replace P3 := Lib.hid (P3.out.below b19 P3.out.lt)
  replace P4 := Lib.hid (P4.out.below b19 P4.out.lt)
  replace P5 := Lib.hid (P5.out.below b19 P5.out.lt)
  replace P7 := Lib.hid (P7.out.below b19 P7.out.lt)
  replace P9 := Lib.hid (P9.out.below b19 P9.out.lt)
  replace P11 := Lib.hid (P11.out.below b19 P11.out.lt)
  replace P13 := Lib.hid (P13.out.below b19 P13.out.lt)
  replace P15 := Lib.hid (P15.out.below b19 P15.out.lt)
  replace P17 := Lib.hid (P17.out.below b19 P17.out.lt)
  replace P19 := Lib.hid (P19.out.below b19 P19.out.lt)
  replace X := Lib.hid (X.out.trans (b19.mono X.out.size))
  clear b19
  clear K8
  go_upto_region 13 with (show wpList _ _ _ (⟨_, Op.store _ _ _, _, _, _, _⟩ :: _) _ _; refine Arr.storeL (Arr.new v19 _ _) rfl 23 (.tmp 21) (.tmp 84) rfl rfl (Lib.byteCells Q) rfl num_size (by rfl) NQ.out (bytes_one _) ?_)
  generalize hw : World.setRow _ _ _ = v20
  obtain ⟨p20, b20, z20⟩ := filled hw
  try have htv20 : FieldWW.Tabs v20 := FieldWW.Tabs.below (by assumption) b20
  replace P3 := Lib.hid (P3.out.below b20 P3.out.lt)
  replace P4 := Lib.hid (P4.out.below b20 P4.out.lt)
  replace P5 := Lib.hid (P5.out.below b20 P5.out.lt)
  replace P7 := Lib.hid (P7.out.below b20 P7.out.lt)
  replace P9 := Lib.hid (P9.out.below b20 P9.out.lt)
  replace P11 := Lib.hid (P11.out.below b20 P11.out.lt)
  replace P13 := Lib.hid (P13.out.below b20 P13.out.lt)
  replace P15 := Lib.hid (P15.out.below b20 P15.out.lt)
  replace P17 := Lib.hid (P17.out.below b20 P17.out.lt)
  replace P19 := Lib.hid (P19.out.below b20 P19.out.lt)
  replace X := Lib.hid (X.out.trans (b20.mono X.out.size))
  obtain ⟨g21, hg21⟩ : ∃ g, v19.heap.size = g := ⟨_, rfl⟩
  rw [hg21] at p20 ⊢
  have P21 := Lib.hid p20
  clear p20 b20 z20 hw hg21
  have q1 := eqn_same T LT.out v20
  have q2 := eqn_same l0 L0.out v20
  have q3 := eqn_same Q LQ.out v20
  go_wp2_with (first | (show wpList _ _ _ (⟨_, Op.load _ (.tmp 9), _, _, _, _⟩ :: _) _ _; refine ArrL.loadLg P9.out (by rfl) 23 (.tmp 9) rfl rfl num_u rfl num_size NT.out ?_) | (show wpList _ _ _ (⟨_, Op.load _ (.tmp 15), _, _, _, _⟩ :: _) _ _; refine ArrL.loadLg P15.out (by rfl) 23 (.tmp 15) rfl rfl num_u rfl num_size NT.out ?_) | (show wpList _ _ _ (⟨_, Op.load _ (.tmp 19), _, _, _, _⟩ :: _) _ _; refine ArrL.loadLg P19.out (by rfl) 23 (.tmp 19) rfl rfl num_u rfl num_size N0.out ?_) | (show wpList _ _ _ (⟨_, Op.load _ (.tmp 3), _, _, _, _⟩ :: _) _ _; refine ArrL.loadLg P3.out (by rfl) 23 (.tmp 3) rfl rfl num_u rfl num_size N0.out ?_) | (show wpList _ _ _ (⟨_, Op.load _ (.tmp 21), _, _, _, _⟩ :: _) _ _; refine ArrL.loadLg P21.out (by rfl) 23 (.tmp 21) rfl rfl num_u rfl num_size NQ.out ?_) | (show wpList _ _ _ (⟨_, Op.load _ (.tmp 11), _, _, _, _⟩ :: _) _ _; refine ArrL.loadLg P11.out (by rfl) 23 (.tmp 11) rfl rfl num_u rfl num_size NQ.out ?_) | (show wpList _ _ _ (⟨_, Op.load _ (.tmp 9), _, _, _, _⟩ :: _) _ _; refine Arr.loadL P9.out rfl 23 (.tmp 9) rfl rfl num_u rfl num_size NT.out ?_) | (show wpList _ _ _ (⟨_, Op.load _ (.tmp 15), _, _, _, _⟩ :: _) _ _; refine Arr.loadL P15.out rfl 23 (.tmp 15) rfl rfl num_u rfl num_size NT.out ?_) | (show wpList _ _ _ (⟨_, Op.load _ (.tmp 19), _, _, _, _⟩ :: _) _ _; refine Arr.loadL P19.out rfl 23 (.tmp 19) rfl rfl num_u rfl num_size N0.out ?_) | (show wpList _ _ _ (⟨_, Op.load _ (.tmp 3), _, _, _, _⟩ :: _) _ _; refine Arr.loadL P3.out rfl 23 (.tmp 3) rfl rfl num_u rfl num_size N0.out ?_) | (show wpList _ _ _ (⟨_, Op.load _ (.tmp 21), _, _, _, _⟩ :: _) _ _; refine Arr.loadL P21.out rfl 23 (.tmp 21) rfl rfl num_u rfl num_size NQ.out ?_) | (show wpList _ _ _ (⟨_, Op.load _ (.tmp 11), _, _, _, _⟩ :: _) _ _; refine Arr.loadL P11.out rfl 23 (.tmp 11) rfl rfl num_u rfl num_size NQ.out ?_))
  go_ret
  exact ⟨rfl, X.out⟩
end Go.Proofs.YtfngomlknhappaaDoor.FieldFieldL
