/-
  The walk of ticketwardkeep.HashBlocks: it returns true and writes nothing that was there. Conditions: the program's own table; bulk at most 1048576.
-/
import Derived.Test.YtfbgiobbkdbboaaDoorHashUse
import Derived.Test.YtfbgiobbkdbboaaDoorTree
namespace Go.Proofs.YtfbgiobbkdbboaaDoor.HashBlocksL
open Go.RowKit BytesW CellsW WordsW ArrW HashM HashX HashMath HashCompW HashFinW HashRightW HashSumW HashSameW HashMoreW HashUseW RowsW SConcatW

theorem build_two (S : List Nat) (long : Int) (h : S.length = 8) (w : World) : (Instr.build 27 #[(0, .agg (wc S).toArray), (1, .int .i64 long)]).run Tryd.prog w = .ok (.agg (hc S long (.slice none 0 0)).toArray) w := by
  obtain ⟨a, b, c, d, e, f, g, i, rfl⟩ := eight8 h
  kernel_rfl

set_option maxHeartbeats 8000000 in
set_option maxRecDepth 100000 in
theorem walk (a0 : Option Addr) (l0 : List UInt8) (c0 : Nat) (a1 : Option Addr) (l1 : List UInt8) (c1 : Nat) (w : World) (hA : Bs w w.heap.size a0 l0) (hc0 : l0.length ≤ c0) (hl0 : l0.length ≤ 1048576) (hB : Bs w w.heap.size a1 l1) (hc1 : l1.length ≤ c1) (hl1 : l1.length ≤ 1048576) (hT : TabR w) :
    Calls Tryd.prog 7 #[.slice a0 l0.length c0, .slice a1 l1.length c1] w fun e w' => e = .returned (.bool true) ∧ Below w.heap.size w w' := by
  have HR := Lib.hid hT
  have HA := Lib.hid hA
  have HB := Lib.hid hB
  obtain ⟨fs, u27⟩ := hash_struct
  have U27 := Lib.hid u27
  clear hT hA hB u27
  go_enter Tryd.func7, Tryd.ntmps7
  go_wp2_with fail
  refine (HashAliveW.alive_any w HR.out).mono ?_
  rintro e w1 ⟨rfl, b1⟩
  have X1 := Lib.hid b1
  clear b1
  obtain ⟨k, hk⟩ : ∃ k, l0.length / 64 = k := ⟨_, rfl⟩
  have hkl : k * 64 ≤ l0.length := by omega
  obtain ⟨m, hm⟩ : ∃ m, l0.take (k * 64) = m := ⟨_, rfl⟩
  have hml : m.length = k * 64 := by rw [← hm, List.length_take]; omega
  go_upto_region 4 with (fail)
  have hml' : l0.length / 64 * 64 = m.length := by omega
  rw [hml']
  have HM := Lib.hid (show Bs w w.heap.size a0 m by rw [← hm]; exact HA.out.take _)
  have HMl := Lib.hid (show m.length = 64 * k by omega)
  have hmc : m.length ≤ c0 := by omega
  have hmb : m.length ≤ 1048576 := by omega
  clear hm hml hml' hkl hk HA
  have hov : over m = [] := by
    have := over_len m
    exact List.eq_nil_of_length_eq_zero (by have := HMl.out; omega)
  have HOv := Lib.hid hov
  clear hov
  go_wp2_with fail
  refine (begin_any w1).mono ?_
  rintro e w2 ⟨rfl, b2⟩
  have X2 := Lib.hid (X1.out.trans (b2.mono X1.out.size))
  have hmo := more_ok IV sm_IV 0 none [] 0 a0 m c0 w2 (Bs.nil _ _ _) (Nat.le_refl _) ((HM.out.below X2.out).more X2.out.size) hmc rfl (by omega) (HR.out.below X2.out)
  simp only [List.nil_append, Nat.zero_add, List.length_nil, HOv.out, show ((0 : Nat) : Int) = 0 from rfl] at hmo
  have HMo := Lib.hid hmo
  clear hmo b2
  go_wp2_with fail
  refine HMo.out.mono ?_
  clear HMo
  rintro e w3 ⟨A3, c3, rfl, -, -, b3⟩
  have X3 := Lib.hid (X2.out.trans (b3.mono X2.out.size))
  obtain ⟨S1, hS1⟩ : ∃ S1, run IV m = S1 := ⟨_, rfl⟩
  have HS1 := Lib.hid (show Sm S1 by rw [← hS1]; exact sm_run _ _ sm_IV)
  rw [hS1]
  have HE1 := Lib.hid hS1
  have N1 := Lib.hid (hc_len S1 (m.length : Int) (.slice A3 0 c3) HS1.out.1)
  clear hS1 b3
  go_upto_region 5 with (refine Arr.storeL (Arr.new w3 _ _) rfl 27 (.tmp 5) (.tmp 23) rfl rfl (hc S1 (m.length : Int) (.slice A3 0 c3)) rfl hash_size (by rfl) N1.out (hc_one _ _ _ _ _) ?_)
  generalize hw4 : World.setRow _ _ _ = w4
  obtain ⟨p5, b4, z4⟩ := filled hw4
  have X4 := Lib.hid (X3.out.trans (b4.mono X3.out.size))
  have P5 := Lib.hid p5
  have P5' : Hid (Arr w4 w3.heap.size 27 (wc S1 ++ [.int .i64 (m.length : Int), .slice A3 0 c3])) := Lib.hid p5
  have c8 := p5.cell 8
  rw [hc_8 S1 _ _ HS1.out.1] at c8
  have c9 := p5.cell 9
  rw [hc_9 S1 _ _ HS1.out.1] at c9
  have N8 := Lib.hid (show (wc S1).length = 8 by rw [wc_length]; exact HS1.out.1)
  have hbd := build_two S1 (m.length : Int) HS1.out.1 w4
  have hmo := more_ok S1 HS1.out m.length none [] 0 a1 l1 c1 w4 (Bs.nil _ _ _) (Nat.le_refl _) ((HB.out.below X4.out).more X4.out.size) hc1 (by have := HMl.out; simp; omega) (by omega) (HR.out.below X4.out)
  simp only [List.nil_append, List.length_nil] at hmo
  have HMo := Lib.hid hmo
  clear hmo b4 p5 hw4 z4
  have HBd := Lib.hid hbd
  clear hbd
  go_wp2_with (first | (refine Arr.loadPartL P5'.out rfl 25 (.tmp 41) rfl rfl arr8 rfl arr8_size N8.out ?_) | (refine buildL rfl rfl rfl HBd.out ?_))
  refine HMo.out.mono ?_
  clear HMo HBd c8 c9
  rintro e w5 ⟨A5, c5, rfl, hc5, s5, b5⟩
  have X5 := Lib.hid (X4.out.trans (b5.mono X4.out.size))
  obtain ⟨S2, hS2⟩ : ∃ S2, run S1 l1 = S2 := ⟨_, rfl⟩
  have HS2 := Lib.hid (show Sm S2 by rw [← hS2]; exact sm_run _ _ HS1.out)
  rw [hS2]
  have HE2 := Lib.hid hS2
  have N2 := Lib.hid (hc_len S2 ((m.length + l1.length : Nat) : Int) (.slice A5 (over l1).length c5) HS2.out.1)
  have S5 := Lib.hid s5
  clear hS2 b5 s5
  go_upto_region 8 with (refine Arr.storeL (Arr.new w5 _ _) rfl 27 (.tmp 7) (.tmp 48) rfl rfl (hc S2 ((m.length + l1.length : Nat) : Int) (.slice A5 (over l1).length c5)) rfl hash_size (by rfl) N2.out (hc_one _ _ _ _ _) ?_)
  generalize hw6 : World.setRow _ _ _ = w6
  obtain ⟨p7, b6, z6⟩ := filled hw6
  have X6 := Lib.hid (X5.out.trans (b6.mono X5.out.size))
  have P7 := Lib.hid p7
  have HEn := Lib.hid (end_ok S2 HS2.out (m.length + l1.length) A5 (over l1) c5 w6 ((S5.out.below b6).more b6.size) (by rw [over_len]; have := HMl.out; omega) (by omega) (HR.out.below X6.out))
  clear b6 p7 hw6 z6
  go_wp2_with (refine Arr.loadL P7.out rfl 27 (.tmp 7) rfl rfl U27.out rfl hash_size N2.out ?_)
  refine HEn.out.mono ?_
  clear HEn
  rintro e w7 ⟨rfl, b7⟩
  have X7 := Lib.hid (X6.out.trans (b7.mono X6.out.size))
  have hD : hend S2 (over l1) (m.length + l1.length) = HashM.sum (m ++ l1) := by
    rw [← HE2.out, ← HE1.out, hend_blocks IV m l1 k _ HMl.out, HashM.sum, List.length_append]
  rw [hD]
  have N32 := Lib.hid (show (Lib.byteCells (HashM.sum (m ++ l1))).length = 32 by rw [Lib.byteCells_length]; exact hend_len IV sm_IV _ _)
  clear b7 hD
  go_upto_region 9 with (refine Arr.storeL (Arr.new w7 _ _) rfl 31 (.tmp 9) (.tmp 53) rfl rfl (Lib.byteCells (HashM.sum (m ++ l1))) rfl dig_size (by rfl) N32.out (bytes_one _) ?_)
  generalize hw8 : World.setRow _ _ _ = w8
  obtain ⟨p9, b8, z8⟩ := filled hw8
  have X8 := Lib.hid (X7.out.trans (b8.mono X7.out.size))
  have P9 := Lib.hid p9
  clear b8 hw8 z8 p9
  have heq : ∀ x : Ab w8, (Op.equalIn 10000 31 (.agg (Lib.byteCells (HashM.sum (m ++ l1))).toArray) (.agg (Lib.byteCells (HashM.sum (m ++ l1))).toArray)).run Tryd.prog x.val = .ok true x.val := fun x => eql_dig _ (hend_len IV sm_IV _ _) x.val
  have HEq := Lib.hid heq
  have hne := ab w8
  have x0 := (Below.refl w8.heap.size w8).drew
  have HMm := Lib.hid (fun (V : World) (hV : Below w8.heap.size w8 V) => (HM.out.below (X8.out.trans (hV.mono X8.out.size))).more (X8.out.trans (hV.mono X8.out.size)).size)
  have HBm := Lib.hid (fun (V : World) (hV : Below w8.heap.size w8 V) => (HB.out.below (X8.out.trans (hV.mono X8.out.size))).more (X8.out.trans (hV.mono X8.out.size)).size)
  have HRm := Lib.hid (fun (V : World) (hV : Below w8.heap.size w8 V) => HR.out.below (X8.out.trans (hV.mono X8.out.size)))
  obtain ⟨V0, hV0⟩ : ∃ x, w8.drew = x := ⟨_, rfl⟩
  clear heq
  refine wp_region_tree (.read 0 (.read 1 (.read 2 (.read 3 (.read 4 (.read 5 (.read 6 (.read 7 (.read 8 (.read 9 (.step 10 (.step 11 (.step 12 (.read 13 (.read 14 (.read 15 .done)))))))))))))))) (fun W => ∃ x : Ab w8, W = x.val) (by kernel_rfl) (by kernel_rfl) (by decide) (fun _ _ d _ _ h => by cases d <;> exact h) (Cl.of (Below.refl _ _).drew) ?_
  rw [hV0] at x0 ⊢
  clear hV0
  rename_i Kr hKr
  refine tree_read rfl (fun K hK => ?_)
  go_simp
  refine hK _ ?_
  clear hK K
  refine tree_read rfl (fun K hK => ?_)
  go_simp
  refine hK _ ?_
  clear hK K
  refine tree_read rfl (fun K hK => ?_)
  go_simp
  refine hK _ ?_
  clear hK K
  refine tree_read rfl (fun K hK => ?_)
  go_simp
  refine hK _ ?_
  clear hK K
  refine tree_read rfl (fun K hK => ?_)
  go_simp
  refine hK _ ?_
  clear hK K
  refine tree_read rfl (fun K hK => ?_)
  go_simp
  refine hK _ ?_
  clear hK K
  refine tree_read rfl (fun K hK => ?_)
  go_simp
  refine hK _ ?_
  clear hK K
  refine tree_read rfl (fun K hK => want rfl ⟨_, fun W hW => Arr.loadPartE (zs := []) (by rw [List.append_nil]; exact P9.out.below (Cl.below hW) P9.out.lt) 31 (.tmp 9) rfl rfl dig rfl dig_size N32.out, hK _ ?_⟩)
  clear hK K
  refine tree_read rfl (fun K hK => ?_)
  go_simp
  refine hK _ ?_
  clear hK K
  refine tree_read rfl (fun K hK => ?_)
  go_simp
  refine hK _ ?_
  clear hK K
  refine tree_step rfl (Cl.of x0) (fun K hK => ?_)
  go_simp
  have m1 := Ms.laid2 V0 a0 a1 m l1 m.length l1.length c0 c1 rfl rfl (HMm.out V0 x0) (HBm.out V0 x0) hmc hc1 (0, 0) (V0.heap.size + 1) (Nat.lt_succ_self _)
  have b1 := (Below.refl V0.heap.size V0).alloc (Nat.le_refl _) (.cells #[.slice a0 m.length c0, .slice a1 l1.length c1] 22)
  obtain ⟨V1, hV1⟩ : ∃ X, V0.alloc (.cells #[.slice a0 m.length c0, .slice a1 l1.length c1] 22) = X := ⟨_, rfl⟩
  rw [hV1] at m1 b1 ⊢
  have x1 := x0.trans (b1.mono x0.size)
  have n1 : V0.heap.size + 1 ≤ V1.heap.size := by rw [← hV1]; simp
  have M1 := Lib.hid (concat_any (some ⟨V0.heap.size, 0, none⟩) [m, l1] 2 V1 (m1.more n1) (by simp [tot]; omega) (by simp))
  refine hK _ _ ⟨Cl.of x1, ?_⟩
  clear hK K hV1 m1 n1 b1
  refine tree_step rfl (Cl.of x1) (fun K hK => ?_)
  go_simp
  refine M1.out.mono ?_
  clear M1
  rintro e V2 ⟨v2, rfl, r2, b2⟩
  obtain ⟨A2, k2, rfl, s2, hk2⟩ := r2.form2
  simp only [List.flatten_cons, List.flatten_nil, List.append_nil] at s2 hk2 ⊢
  have x2 := x1.trans (b2.mono x1.size)
  have HSu := Lib.hid (sum_any A2 (m ++ l1) k2 V2 s2 hk2 (by rw [List.length_append]; omega) (HRm.out V2 x2))
  refine hK _ _ ⟨Cl.of x2, ?_⟩
  clear hK K r2 s2 hk2 b2
  obtain ⟨N, hN⟩ : ∃ N, (m ++ l1).length = N := ⟨_, rfl⟩
  rw [hN] at HSu ⊢
  clear hN
  refine tree_step rfl (Cl.of x2) (fun K hK => ?_)
  go_simp
  refine HSu.out.mono ?_
  rintro e V3 ⟨rfl, b3⟩
  have x3 := x2.trans (b3.mono x2.size)
  refine hK _ _ ⟨Cl.of x3, ?_⟩
  clear hK K b3
  have heq := HEq.out
  refine tree_read rfl (fun K hK => ?_)
  go_simp
  refine hK _ ?_
  clear hK K
  refine tree_read rfl (fun K hK => ?_)
  go_simp
  refine hK _ ?_
  clear hK K
  refine tree_read rfl (fun K hK => ?_)
  go_simp
  refine hK _ ?_
  clear hK K
  refine tree_done ?_
  refine hKr _ _ ?_
  go_wp2
  go_ret
  exact ⟨rfl, X8.out.trans (x3.mono X8.out.size)⟩
end Go.Proofs.YtfbgiobbkdbboaaDoor.HashBlocksL
