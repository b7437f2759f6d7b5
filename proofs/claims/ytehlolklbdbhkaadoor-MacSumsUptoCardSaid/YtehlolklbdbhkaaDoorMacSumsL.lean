/-
  The walk of ticketwardlaw.MacSums: it returns true and writes nothing that was there. Conditions: the tables; bulk at most 1048576.
-/
import Derived.Test.YtehlolklbdbhkaaDoorMacSum
import Derived.Test.YtehlolklbdbhkaaDoorMacRef
import Derived.Test.YtehlolklbdbhkaaDoorKd
namespace Go.Proofs.YtehlolklbdbhkaaDoor.MacSumsL
open Go.RowKit BytesW CellsW WordsW ArrW HashX HashCompW HashSumW HashSameW HashFinW HashBlockW HashRefW MacM MacRefW MacSumW

set_option maxHeartbeats 8000000 in
set_option maxRecDepth 100000 in
theorem walk (a0 : Option Addr) (l0 : List UInt8) (c0 : Nat) (a1 : Option Addr) (l1 : List UInt8) (c1 : Nat) (a2 : Option Addr) (l2 : List UInt8) (c2 : Nat) (w : World) (hA : Bs w w.heap.size a0 l0) (hc0 : l0.length ≤ c0) (hl0 : l0.length ≤ 1048576) (hB : Bs w w.heap.size a1 l1) (hc1 : l1.length ≤ c1) (hl1 : l1.length ≤ 1048576) (hC : Bs w w.heap.size a2 l2) (hc2 : l2.length ≤ c2) (hl2 : l2.length ≤ 1048576) (hT0 : TabK w ∧ TabI w ∧ TabR w) :
    Calls Tryd.prog 3 #[.slice a0 l0.length c0, .slice a1 l1.length c1, .slice a2 l2.length c2] w fun e w' => e = .returned (.bool true) ∧ Below w.heap.size w w' := by
  have hT : Tabs w ∧ TabI w ∧ TabK w := ⟨hT0.2.2, hT0.2.1, hT0.1⟩
  clear hT0
  have HT := Lib.hid hT.1
  have HI := Lib.hid hT.2.1
  have HK := Lib.hid hT.2.2
  have HA := Lib.hid hA
  have HB := Lib.hid hB
  have HC := Lib.hid hC
  obtain ⟨D, hD⟩ : ∃ D, hm l0 l1 = D := ⟨_, rfl⟩
  have HDl := Lib.hid (show D.length = 32 by rw [← hD]; exact hm_len _ _)
  have N32 := Lib.hid (show (Lib.byteCells D).length = 32 by rw [Lib.byteCells_length]; exact HDl.out)
  obtain ⟨ok, er, hck⟩ : ∃ ok er, checkM l0 l1 l2 = (ok, er) := ⟨_, _, rfl⟩
  have hF := fsum_any a0 l0 c0 a1 l1 c1 w hA (Nat.le_trans hl0 (by decide)) hB (Nat.le_trans hl1 (by decide)) hT.2.1 hT.2.2
  rw [← hm_small l0 l1 (Nat.le_trans hl1 (by decide))] at hF
  have HF := Lib.hid hF
  have HCh := Lib.hid (fun (V : World) (hV : Below w.heap.size w V) => mcheck_any a0 l0 c0 a1 l1 c1 a2 l2 c2 V ((hA.below hV).more hV.size) hc0 ((hB.below hV).more hV.size) hc1 ((hC.below hV).more hV.size) hc2 (Nat.le_trans hl0 (by decide)) (Nat.le_trans hl1 (by decide)) (Nat.le_trans hl2 (by decide)) (hT.1.below hV))
  have HSu := Lib.hid (fun (V : World) (hV : Below w.heap.size w V) => msum_any a0 l0 c0 a1 l1 c1 V ((hA.below hV).more hV.size) hc0 ((hB.below hV).more hV.size) hc1 (Nat.le_trans hl0 (by decide)) (Nat.le_trans hl1 (by decide)) (hT.1.below hV))
  rw [hD] at HF HSu
  rw [hck] at HCh
  unfold checkM at hck
  rw [hD] at hck
  have HCk := Lib.hid hck
  clear hT hA hB hC hD hck hF
  go_enter Tryd.func3, Tryd.ntmps3
  go_wp2_with fail
  refine HF.out.mono ?_
  clear HF
  rintro e w1 ⟨rfl, b1⟩
  have X1 := Lib.hid b1
  clear b1
  go_upto_region 2 with (refine Arr.storeL (Arr.new w1 _ _) rfl 24 (.tmp 7) (.tmp 12) rfl rfl (Lib.byteCells D) rfl dig_size (by rfl) N32.out (bytes_one _) ?_)
  generalize hw2 : World.setRow _ _ _ = w2
  obtain ⟨p7, b2, z2⟩ := filled hw2
  have X2 := Lib.hid (X1.out.trans (b2.mono X1.out.size))
  have P7 := Lib.hid p7
  obtain ⟨g7, hg7⟩ : ∃ g, w1.heap.size = g := ⟨_, rfl⟩
  rw [hg7] at P7 ⊢
  clear b2 hw2 p7 hg7 z2
  go_wp2_with fail
  refine (HCh.out w2 X2.out).mono ?_
  clear HCh
  rintro e w3 ⟨rfl, b3⟩
  have X3 := Lib.hid (X2.out.trans (b3.mono X2.out.size))
  have P73 := Lib.hid (P7.out.below b3 P7.out.lt)
  clear b3 P7
  go_upto_region 3 with (fail)
  have hne := ab w3
  have x0 := (Below.refl w3.heap.size w3).drew
  obtain ⟨V0, hV0⟩ : ∃ x, w3.drew = x := ⟨_, rfl⟩
  refine wp_region_tree (.read 0 (.read 1 (.read 3 (.step 2 (.read 4 .done))))) (fun W => ∃ x : Ab w3, W = x.val) (by kernel_rfl) (by kernel_rfl) (by decide) (fun _ _ d _ _ h => by cases d <;> exact h) (Cl.of (Below.refl _ _).drew) ?_
  rw [hV0] at x0 ⊢
  clear hV0
  refine tree_read rfl (fun K hK => ?_)
  go_simp
  refine hK _ ?_
  clear hK K
  refine tree_read rfl (fun K hK => ?_)
  go_simp
  refine hK _ ?_
  clear hK K
  refine tree_read rfl (fun K hK => want rfl ⟨_, fun W hW => Arr.loadPartE (zs := []) (by rw [List.append_nil]; exact P73.out.below (Cl.below hW) P73.out.lt) 24 (.tmp 7) rfl rfl dig rfl dig_size N32.out, hK _ ?_⟩)
  clear hK K
  have hsu := HSu.out V0 (X3.out.trans (x0.mono X3.out.size))
  refine tree_step rfl (Cl.of x0) (fun K hK => ?_)
  go_simp
  refine hsu.mono ?_
  clear hsu HSu
  rintro e V1 ⟨rfl, b1⟩
  have x1 := x0.trans (b1.mono x0.size)
  refine hK _ _ ⟨Cl.of x1, ?_⟩
  clear hK K b1
  have heq : ∀ x : Ab w3, (Op.equalIn 10000 24 (.agg (Lib.byteCells D).toArray) (.agg (Lib.byteCells D).toArray)).run Tryd.prog x.val = .ok true x.val := fun x => eql_dig D HDl.out x.val
  refine tree_read rfl (fun K hK => ?_)
  go_simp
  refine hK _ ?_
  clear hK K heq
  refine tree_done ?_
  have X4 := Lib.hid (X3.out.trans (x1.mono X3.out.size))
  have P74 := Lib.hid (P73.out.below x1 P73.out.lt)
  clear x0 x1 hne
  by_cases h16 : l2.length < 16
  · have hck := HCk.out
    rw [if_pos h16] at hck
    cases hck
    have ct : decide ((l2.length : Int) < 16) = true := decide_eq_true (by omega)
    go_wp2
    go_ret
    exact ⟨rfl, X4.out⟩
  · have ct : decide ((l2.length : Int) < 16) = false := decide_eq_false (by omega)
    by_cases h32 : 32 < l2.length
    · have hck := HCk.out
      rw [if_neg h16, if_pos h32] at hck
      cases hck
      have ct2 : decide ((l2.length : Int) > 32) = true := decide_eq_true (by omega)
      go_wp2
      go_ret
      exact ⟨rfl, X4.out⟩
    · have hck := HCk.out
      rw [if_neg h16, if_neg h32] at hck
      cases hck
      have ct2 : decide ((l2.length : Int) > 32) = false := decide_eq_false (by omega)
      obtain ⟨n, hn⟩ : ∃ n, l2.length = n := ⟨_, rfl⟩
      have Hn := Lib.hid hn
      have hb1 := arr_bs P74.out P74.out.lt
      have hbt : ∀ x : Ab V1, (convert 22 9 (.slice (some ⟨g7, 0, none⟩) n 32)).run Tryd.prog x.val = .ok (.string ⟨(D.take n).toArray⟩) x.val := fun x => by
        have h := ((hb1.take n).below (Cl.below ⟨x, rfl⟩)).conv 32
        rw [List.length_take, HDl.out, Nat.min_eq_left (by omega)] at h
        exact h
      have hbs : ∀ x : Ab V1, (convert 22 9 (.slice a2 n c2)).run Tryd.prog x.val = .ok (.string ⟨l2.toArray⟩) x.val := fun x => by
        have h := ((HC.out.below (X4.out.trans ((Cl.below ⟨x, rfl⟩ : Below V1.heap.size V1 x.val).mono X4.out.size)))).conv c2
        rw [hn] at h
        exact h
      rw [hn] at h16 h32 ct ct2 ⊢
      have i32 : (n : Int) ≤ 32 := by omega
      clear hb1 hn
      go_upto_region 9 with (fail)
      have hne := ab V1
      refine wp_region_tree (.read 0 (.read 1 (.read 2 (.read 3 (.read 4 (.read 5 (.read 6 (.read 7 (.read 8 (.read 9 (.read 10 (.read 11 (.read 12 (.read 13 .done)))))))))))))) (fun W => ∃ x : Ab V1, W = x.val) (by kernel_rfl) (by kernel_rfl) (by decide) (fun _ _ d _ _ h => by cases d <;> exact h) (Cl.of (Below.refl _ _).drew) ?_
      iterate 14 (refine tree_read rfl (fun K hK => ?_); go_simp; refine hK _ ?_; clear hK K)
      refine tree_done ?_
      go_wp2
      go_ret
      have hfin : (decide (List.take n D = l2) == (List.take n D == l2)) = true := by by_cases h : List.take n D = l2 <;> simp [h]
      refine ⟨?_, X4.out.trans ((Below.refl _ _).drew.mono X4.out.size)⟩
      rw [hfin]
      rfl
end Go.Proofs.YtehlolklbdbhkaaDoor.MacSumsL
