/-
  The walk of ticketwardkeep.WideRows: it returns true and writes nothing that was there. Conditions: the program's own table; bulk at most 1048576.
-/
import Derived.Test.YtmmmogccjopfeaaDoorWideAlive
import Derived.Test.YtmmmogccjopfeaaDoorTree
namespace Go.Proofs.YtmmmogccjopfeaaDoor.WideRowsL
open Go.RowKit BytesW CellsW LongsW ArrW ArrL WideM WideX WideEndW WideCompW WideRowsW WideD RowsW SConcatW

/-- A slice of rows that has just been laid. -/
theorem ms2 (w : World) (a1 a2 : Option Addr) (l1 l2 : List UInt8) (c1 c2 : Nat) (h1 : Bs w w.heap.size a1 l1) (h2 : Bs w w.heap.size a2 l2) (k1 : l1.length ≤ c1) (k2 : l2.length ≤ c2) :
    Ms (w.alloc (.cells #[.slice a1 l1.length c1, .slice a2 l2.length c2] 22)) (w.alloc (.cells #[.slice a1 l1.length c1, .slice a2 l2.length c2] 22)).heap.size (some ⟨w.heap.size, 0, none⟩) [l1, l2] :=
  Ms.laid2 w a1 a2 l1 l2 _ _ c1 c2 rfl rfl h1 h2 k1 k2 (0, 0) _ (by simp)
theorem ms3 (w : World) (a1 a2 a3 : Option Addr) (l1 l2 l3 : List UInt8) (c1 c2 c3 : Nat) (h1 : Bs w w.heap.size a1 l1) (h2 : Bs w w.heap.size a2 l2) (h3 : Bs w w.heap.size a3 l3) (k1 : l1.length ≤ c1) (k2 : l2.length ≤ c2) (k3 : l3.length ≤ c3) :
    Ms (w.alloc (.cells #[.slice a1 l1.length c1, .slice a2 l2.length c2, .slice a3 l3.length c3] 22)) (w.alloc (.cells #[.slice a1 l1.length c1, .slice a2 l2.length c2, .slice a3 l3.length c3] 22)).heap.size (some ⟨w.heap.size, 0, none⟩) [l1, l2, l3] := by
  refine Ms.laid w [.slice a1 l1.length c1, .slice a2 l2.length c2, .slice a3 l3.length c3] [l1, l2, l3] _ rfl (0, 0) rfl (fun k u l hu hl => ?_) _ (by simp)
  match k, hu, hl with
  | 0, hu, hl => simp at hu hl; subst hu; subst hl; exact ⟨a1, c1, rfl, k1, h1⟩
  | 1, hu, hl => simp at hu hl; subst hu; subst hl; exact ⟨a2, c2, rfl, k2, h2⟩
  | 2, hu, hl => simp at hu hl; subst hu; subst hl; exact ⟨a3, c3, rfl, k3, h3⟩

set_option maxHeartbeats 8000000 in
set_option maxRecDepth 100000 in
theorem walk (a0 : Option Addr) (l0 : List UInt8) (c0 : Nat) (a1 : Option Addr) (l1 : List UInt8) (c1 : Nat) (a2 : Option Addr) (l2 : List UInt8) (c2 : Nat) (w : World) (hA : Bs w w.heap.size a0 l0) (hc0 : l0.length ≤ c0) (hl0 : l0.length ≤ 1048576) (hB : Bs w w.heap.size a1 l1) (hc1 : l1.length ≤ c1) (hl1 : l1.length ≤ 1048576) (hC : Bs w w.heap.size a2 l2) (hc2 : l2.length ≤ c2) (hl2 : l2.length ≤ 1048576) (hT : TabR w) :
    Calls Tryd.prog 4 #[.slice a0 l0.length c0, .slice a1 l1.length c1, .slice a2 l2.length c2] w fun e w' => e = .returned (.bool true) ∧ Below w.heap.size w w' := by
  have HR := Lib.hid hT
  have HA := Lib.hid hA
  have HB := Lib.hid hB
  have HC := Lib.hid hC
  obtain ⟨T, hTe⟩ : ∃ T, l0 ++ l1 ++ l2 = T := ⟨_, rfl⟩
  have HTe := Lib.hid hTe
  have HTl := Lib.hid (show T.length ≤ 3145728 by rw [← hTe]; simp; omega)
  obtain ⟨D, hD⟩ : ∃ D, WideM.sum T = D := ⟨_, rfl⟩
  have HD := Lib.hid hD
  have N64 := Lib.hid (show (Lib.byteCells D).length = 64 by rw [Lib.byteCells, List.length_map, ← hD]; exact sum_len T)
  have HDl := Lib.hid (show D.length = 64 by rw [← hD]; exact sum_len T)
  clear hT hA hB hC hTe hD
  go_enter Tryd.func4, Tryd.ntmps4
  go_wp2_with fail
  refine (WideAliveW.alive_any w HR.out).mono ?_
  rintro e w1 ⟨rfl, b1⟩
  have X1 := Lib.hid b1
  clear b1
  go_wp2_with fail
  have hm := ms3 w1 a0 a1 a2 l0 l1 l2 c0 c1 c2 ((HA.out.below X1.out).more X1.out.size) ((HB.out.below X1.out).more X1.out.size) ((HC.out.below X1.out).more X1.out.size) hc0 hc1 hc2
  generalize hw2 : World.alloc _ _ = w2
  have b2 := (Below.refl w1.heap.size w1).alloc (Nat.le_refl _) (.cells #[.slice a0 l0.length c0, .slice a1 l1.length c1, .slice a2 l2.length c2] 22)
  rw [hw2] at hm b2
  have X2 := Lib.hid (X1.out.trans (b2.mono X1.out.size))
  have hr := rows_any _ [l0, l1, l2] 3 w2 hm (by simp) (by simp [tot]; omega) (HR.out.below X2.out)
  rw [show ([l0, l1, l2] : List (List UInt8)).flatten = T by rw [← HTe.out]; simp, HD.out] at hr
  have HE := Lib.hid hr
  clear hm b2 hw2 hr
  refine HE.out.mono ?_
  clear HE
  rintro e w3 ⟨rfl, b3⟩
  have X3 := Lib.hid (X2.out.trans (b3.mono X2.out.size))
  clear b3
  go_upto_region 4 with (refine Arr.storeL (Arr.new w3 _ _) rfl 24 (.tmp 7) (.tmp 14) rfl rfl (Lib.byteCells D) rfl wide_size (by rfl) N64.out (bytes_one _) ?_)
  generalize hw4 : World.setRow _ _ _ = w4
  obtain ⟨p7, b4, -⟩ := ArrG.filled hw4
  have X4 := Lib.hid (X3.out.trans (b4.mono X3.out.size))
  have P7 := Lib.hid p7
  obtain ⟨g7, hg7⟩ : ∃ g, w3.heap.size = g := ⟨_, rfl⟩
  rw [hg7] at P7 ⊢
  clear b4 hw4 p7 hg7
  have heq : ∀ x : Ab w4, (Op.equalIn 10000 24 (.agg (Lib.byteCells D).toArray) (.agg (Lib.byteCells D).toArray)).run Tryd.prog x.val = .ok true x.val := fun x => eql_wide _ HDl.out x.val
  have HEq := Lib.hid heq
  have hne := ab w4
  have x0 := (Below.refl w4.heap.size w4).drew
  obtain ⟨V0, hV0⟩ : ∃ x, w4.drew = x := ⟨_, rfl⟩
  clear heq
  refine wp_region_tree (.read 0 (.read 1 (.read 2 (.read 3 (.step 4 (.step 5 (.step 6 (.read 7 (.read 8 (.read 9 (.read 10 (.read 11 (.read 14 (.step 12 (.step 13 (.step 15 (.step 16 (.read 17 (.read 18 (.read 19 (.read 20 (.read 21 (.read 22 (.read 23 (.step 24 (.step 25 (.step 26 (.step 27 (.read 28 (.read 29 (.read 30 .done))))))))))))))))))))))))))))))) (fun W => ∃ x : Ab w4, W = x.val) (by kernel_rfl) (by kernel_rfl) (by decide) (fun _ _ d _ _ h => by cases d <;> exact h) (Cl.of (Below.refl _ _).drew) ?_
  rw [hV0] at x0 ⊢
  clear hV0
  rename_i Kr hKr
  refine tree_read rfl (fun K hK => want rfl ⟨_, fun W hW => Arr.loadPartE (zs := []) (by rw [List.append_nil]; exact P7.out.below (Cl.below hW) P7.out.lt) 24 (.tmp 7) rfl rfl wide rfl wide_size N64.out, hK _ ?_⟩)
  clear hK K
  refine tree_read rfl (fun K hK => ?_)
  go_simp
  refine hK _ ?_
  clear hK K
  refine tree_read rfl (fun K hK => ?_)
  go_simp
  refine hK _ ?_
  clear hK K
  refine tree_read rfl (fun K hK => ?_)
  go_simp
  refine hK _ ?_
  clear hK K
  have hm1 := ms3 V0 a0 a1 a2 l0 l1 l2 c0 c1 c2 ((HA.out.below (X4.out.trans (x0.mono X4.out.size))).more ((X4.out.trans (x0.mono X4.out.size)).size)) ((HB.out.below (X4.out.trans (x0.mono X4.out.size))).more ((X4.out.trans (x0.mono X4.out.size)).size)) ((HC.out.below (X4.out.trans (x0.mono X4.out.size))).more ((X4.out.trans (x0.mono X4.out.size)).size)) hc0 hc1 hc2
  have b1 := (Below.refl V0.heap.size V0).alloc (Nat.le_refl _) (.cells #[.slice a0 l0.length c0, .slice a1 l1.length c1, .slice a2 l2.length c2] 22)
  obtain ⟨V1, hV1⟩ : ∃ V, V0.alloc (.cells #[.slice a0 l0.length c0, .slice a1 l1.length c1, .slice a2 l2.length c2] 22) = V := ⟨_, rfl⟩
  rw [hV1] at hm1 b1
  have x1 := x0.trans (b1.mono x0.size)
  have HM1 := Lib.hid hm1
  clear hm1 b1
  refine tree_step rfl (Cl.of x0) (fun K hK => ?_)
  go_simp
  refine hK _ _ ⟨Cl.of x1, ?_⟩
  clear hK K hV1
  have hco := concat_any _ [l0, l1, l2] 3 V1 HM1.out (by simp [tot]; omega) (by simp)
  rw [show ([l0, l1, l2] : List (List UInt8)).flatten = T by rw [← HTe.out]; simp] at hco
  refine tree_step rfl (Cl.of x1) (fun K hK => ?_)
  go_simp
  refine hco.mono ?_
  clear hco
  rintro e V2 ⟨v2, rfl, r2, b2⟩
  obtain ⟨A2, d2, rfl, s2, hd2⟩ := r2.form2
  have x2 := x1.trans (b2.mono x1.size)
  refine hK _ _ ⟨Cl.of x2, ?_⟩
  clear hK K b2 r2
  have hsu := sum_any A2 T d2 V2 s2 hd2 (by have := HTl.out; omega) (HR.out.below (X4.out.trans (x2.mono X4.out.size)))
  rw [HD.out] at hsu
  refine tree_step rfl (Cl.of x2) (fun K hK => ?_)
  go_simp
  refine hsu.mono ?_
  clear hsu s2
  rintro e V3 ⟨rfl, b3⟩
  have x3 := x2.trans (b3.mono x2.size)
  refine hK _ _ ⟨Cl.of x3, ?_⟩
  clear hK K b3
  have heq := HEq.out
  refine tree_read rfl (fun K hK => ?_)
  go_simp
  refine hK _ ?_
  clear hK K
  refine tree_read rfl (fun K hK => ?_)
  go_simp
  refine hK _ ?_
  clear hK K
  refine tree_read rfl (fun K hK => want rfl ⟨_, fun W hW => Arr.loadPartE (zs := []) (by rw [List.append_nil]; exact P7.out.below (Cl.below hW) P7.out.lt) 24 (.tmp 7) rfl rfl wide rfl wide_size N64.out, hK _ ?_⟩)
  clear hK K
  refine tree_read rfl (fun K hK => ?_)
  go_simp
  refine hK _ ?_
  clear hK K
  refine tree_read rfl (fun K hK => ?_)
  go_simp
  refine hK _ ?_
  clear hK K
  refine tree_read rfl (fun K hK => ?_)
  go_simp
  refine hK _ ?_
  clear hK K
  have Y3 := Lib.hid (X4.out.trans (x3.mono X4.out.size))
  have hm4 := ms2 V3 a0 a1 l0 l1 c0 c1 ((HA.out.below Y3.out).more Y3.out.size) ((HB.out.below Y3.out).more Y3.out.size) hc0 hc1
  have b4 := (Below.refl V3.heap.size V3).alloc (Nat.le_refl _) (.cells #[.slice a0 l0.length c0, .slice a1 l1.length c1] 22)
  obtain ⟨V4, hV4⟩ : ∃ V, V3.alloc (.cells #[.slice a0 l0.length c0, .slice a1 l1.length c1] 22) = V := ⟨_, rfl⟩
  rw [hV4] at hm4 b4
  have x4 := x3.trans (b4.mono x3.size)
  have HM4 := Lib.hid hm4
  clear hm4 b4
  refine tree_step rfl (Cl.of x3) (fun K hK => ?_)
  go_simp
  refine hK _ _ ⟨Cl.of x4, ?_⟩
  clear hK K hV4
  have hco := concat_any _ [l0, l1] 2 V4 HM4.out (by simp [tot]; omega) (by simp)
  obtain ⟨Q, hQ⟩ : ∃ Q, l0 ++ l1 = Q := ⟨_, rfl⟩
  have HQ := Lib.hid hQ
  rw [show ([l0, l1] : List (List UInt8)).flatten = Q by rw [← hQ]; simp] at hco
  have hQl : Q.length ≤ 2097152 := by rw [← hQ]; simp; omega
  clear hQ
  refine tree_step rfl (Cl.of x4) (fun K hK => ?_)
  go_simp
  refine hco.mono ?_
  clear hco
  rintro e V5 ⟨v5, rfl, r5, b5⟩
  obtain ⟨A5, d5, rfl, s5, hd5⟩ := r5.form2
  have x5 := x4.trans (b5.mono x4.size)
  refine hK _ _ ⟨Cl.of x5, ?_⟩
  clear hK K b5 r5
  have Y5 := Lib.hid (X4.out.trans (x5.mono X4.out.size))
  have hm6 := ms3 V5 A5 none a2 Q [] l2 d5 0 c2 s5 (Bs.nil _ _ _) ((HC.out.below Y5.out).more Y5.out.size) hd5 (Nat.le_refl _) hc2
  have b6 := (Below.refl V5.heap.size V5).alloc (Nat.le_refl _) (.cells #[.slice A5 Q.length d5, .slice none 0 0, .slice a2 l2.length c2] 22)
  obtain ⟨V6, hV6⟩ : ∃ V, V5.alloc (.cells #[.slice A5 Q.length d5, .slice none 0 0, .slice a2 l2.length c2] 22) = V := ⟨_, rfl⟩
  rw [show ([] : List UInt8).length = 0 from rfl, hV6] at hm6
  rw [hV6] at b6
  have x6 := x5.trans (b6.mono x5.size)
  have HM6 := Lib.hid hm6
  clear hm6 b6 s5
  refine tree_step rfl (Cl.of x5) (fun K hK => ?_)
  go_simp
  refine hK _ _ ⟨Cl.of x6, ?_⟩
  clear hK K hV6
  have hro := rows_any _ [Q, [], l2] 3 V6 HM6.out (by simp) (by simp [tot]; omega) (HR.out.below (X4.out.trans (x6.mono X4.out.size)))
  rw [show ([Q, [], l2] : List (List UInt8)).flatten = T by rw [← HTe.out, ← HQ.out]; simp, HD.out] at hro
  refine tree_step rfl (Cl.of x6) (fun K hK => ?_)
  go_simp
  refine hro.mono ?_
  clear hro
  rintro e V7 ⟨rfl, b7⟩
  have x7 := x6.trans (b7.mono x6.size)
  refine hK _ _ ⟨Cl.of x7, ?_⟩
  clear hK K b7
  refine tree_read rfl (fun K hK => ?_)
  go_simp
  refine hK _ ?_
  clear hK K
  refine tree_read rfl (fun K hK => ?_)
  go_simp
  refine hK _ ?_
  clear hK K
  refine tree_read rfl (fun K hK => ?_)
  go_simp
  refine hK _ ?_
  clear hK K
  refine tree_read rfl (fun K hK => want rfl ⟨_, fun W hW => Arr.loadPartE (zs := []) (by rw [List.append_nil]; exact P7.out.below (Cl.below hW) P7.out.lt) 24 (.tmp 7) rfl rfl wide rfl wide_size N64.out, hK _ ?_⟩)
  clear hK K
  refine tree_read rfl (fun K hK => ?_)
  go_simp
  refine hK _ ?_
  clear hK K
  refine tree_read rfl (fun K hK => ?_)
  go_simp
  refine hK _ ?_
  clear hK K
  refine tree_read rfl (fun K hK => ?_)
  go_simp
  refine hK _ ?_
  clear hK K
  have Y7 := Lib.hid (X4.out.trans (x7.mono X4.out.size))
  have hm8 := ms2 V7 a1 a2 l1 l2 c1 c2 ((HB.out.below Y7.out).more Y7.out.size) ((HC.out.below Y7.out).more Y7.out.size) hc1 hc2
  have b8 := (Below.refl V7.heap.size V7).alloc (Nat.le_refl _) (.cells #[.slice a1 l1.length c1, .slice a2 l2.length c2] 22)
  obtain ⟨V8, hV8⟩ : ∃ V, V7.alloc (.cells #[.slice a1 l1.length c1, .slice a2 l2.length c2] 22) = V := ⟨_, rfl⟩
  rw [hV8] at hm8 b8
  have x8 := x7.trans (b8.mono x7.size)
  have HM8 := Lib.hid hm8
  clear hm8 b8
  refine tree_step rfl (Cl.of x7) (fun K hK => ?_)
  go_simp
  refine hK _ _ ⟨Cl.of x8, ?_⟩
  clear hK K hV8
  have hco := concat_any _ [l1, l2] 2 V8 HM8.out (by simp [tot]; omega) (by simp)
  obtain ⟨U, hU⟩ : ∃ U, l1 ++ l2 = U := ⟨_, rfl⟩
  have HU := Lib.hid hU
  rw [show ([l1, l2] : List (List UInt8)).flatten = U by rw [← hU]; simp] at hco
  have hUl : U.length ≤ 2097152 := by rw [← hU]; simp; omega
  clear hU
  refine tree_step rfl (Cl.of x8) (fun K hK => ?_)
  go_simp
  refine hco.mono ?_
  clear hco
  rintro e V9 ⟨v9, rfl, r9, b9⟩
  obtain ⟨A9, d9, rfl, s9, hd9⟩ := r9.form2
  have x9 := x8.trans (b9.mono x8.size)
  refine hK _ _ ⟨Cl.of x9, ?_⟩
  clear hK K b9 r9
  have Y9 := Lib.hid (X4.out.trans (x9.mono X4.out.size))
  have hma := ms2 V9 a0 A9 l0 U c0 d9 ((HA.out.below Y9.out).more Y9.out.size) s9 hc0 hd9
  have ba := (Below.refl V9.heap.size V9).alloc (Nat.le_refl _) (.cells #[.slice a0 l0.length c0, .slice A9 U.length d9] 22)
  obtain ⟨Va, hVa⟩ : ∃ V, V9.alloc (.cells #[.slice a0 l0.length c0, .slice A9 U.length d9] 22) = V := ⟨_, rfl⟩
  rw [hVa] at hma ba
  have xa := x9.trans (ba.mono x9.size)
  have HMa := Lib.hid hma
  clear hma ba s9
  refine tree_step rfl (Cl.of x9) (fun K hK => ?_)
  go_simp
  refine hK _ _ ⟨Cl.of xa, ?_⟩
  clear hK K hVa
  have hro := rows_any _ [l0, U] 2 Va HMa.out (by simp) (by simp [tot]; omega) (HR.out.below (X4.out.trans (xa.mono X4.out.size)))
  rw [show ([l0, U] : List (List UInt8)).flatten = T by rw [← HTe.out, ← HU.out]; simp, HD.out] at hro
  refine tree_step rfl (Cl.of xa) (fun K hK => ?_)
  go_simp
  refine hro.mono ?_
  clear hro
  rintro e Vb ⟨rfl, bb⟩
  have xb := xa.trans (bb.mono xa.size)
  refine hK _ _ ⟨Cl.of xb, ?_⟩
  clear hK K bb
  refine tree_read rfl (fun K hK => ?_)
  go_simp
  refine hK _ ?_
  clear hK K
  refine tree_read rfl (fun K hK => ?_)
  go_simp
  refine hK _ ?_
  clear hK K
  refine tree_read rfl (fun K hK => ?_)
  go_simp
  refine hK _ ?_
  clear hK K
  refine tree_done ?_
  refine hKr _ _ ?_
  go_wp2
  go_ret
  exact ⟨rfl, X4.out.trans (xb.mono X4.out.size)⟩
end Go.Proofs.YtmmmogccjopfeaaDoor.WideRowsL
