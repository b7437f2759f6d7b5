/-
  The walk of ticketwardkeep.MacKeys: it returns true and writes nothing that was there. Conditions: the tables; the form's own reach.
-/
import Derived.Test.YtehlolklbdbhkaaDoorMacAlive
import Derived.Test.YtehlolklbdbhkaaDoorAppZ
import Derived.Test.YtehlolklbdbhkaaDoorSClone
import Derived.Test.YtehlolklbdbhkaaDoorKd
namespace Go.Proofs.YtehlolklbdbhkaaDoor.MacKeysL
open Go.RowKit BytesW CellsW WordsW ArrW HashX HashCompW HashSumW HashSameW HashFinW HashBlockW HashRefW MacM MacRefW MacSumW AppZ

set_option maxHeartbeats 8000000 in
set_option maxRecDepth 100000 in
theorem walk (a0 : Option Addr) (l0 : List UInt8) (c0 : Nat) (a1 : Option Addr) (l1 : List UInt8) (c1 : Nat) (n : Int) (w : World) (hA : Bs w w.heap.size a0 l0) (hc0 : l0.length ≤ c0) (hl0 : l0.length ≤ 140737488351232) (hB : Bs w w.heap.size a1 l1) (hc1 : l1.length ≤ c1) (hl1 : l1.length ≤ 140737488351232) (_ : (Lit.int .i64 n).wf = true) (hT0 : TabK w ∧ TabI w ∧ TabR w) :
    Calls Tryd.prog 6 #[.slice a0 l0.length c0, .slice a1 l1.length c1, .int .i64 n] w fun e w' => e = .returned (.bool true) ∧ Below w.heap.size w w' := by
  have hT : Tabs w ∧ TabI w ∧ TabK w := ⟨hT0.2.2, hT0.2.1, hT0.1⟩
  clear hT0
  have HT := Lib.hid hT.1
  have HI := Lib.hid hT.2.1
  have HK := Lib.hid hT.2.2
  have HA := Lib.hid hA
  have HB := Lib.hid hB
  obtain ⟨D, hD⟩ : ∃ D, hm l0 l1 = D := ⟨_, rfl⟩
  have HDl := Lib.hid (show D.length = 32 by rw [← hD]; exact hm_len _ _)
  have N32 := Lib.hid (show (Lib.byteCells D).length = 32 by rw [Lib.byteCells_length]; exact HDl.out)
  have HD := Lib.hid hD
  have HSu := Lib.hid (fun (V : World) (hV : Below w.heap.size w V) => msum_any a0 l0 c0 a1 l1 c1 V ((hA.below hV).more hV.size) hc0 ((hB.below hV).more hV.size) hc1 hl0 hl1 (hT.1.below hV))
  rw [hD] at HSu
  clear hT hA hB hD
  go_enter Tryd.func6, Tryd.ntmps6
  go_wp2_with fail
  refine (MacAliveW.alive_any w HT.out).mono ?_
  rintro e w1 ⟨rfl, b1⟩
  have X1 := Lib.hid b1
  clear b1
  go_wp2_with fail
  refine (HSu.out w1 X1.out).mono ?_
  clear HSu
  rintro e w2 ⟨rfl, b2⟩
  have X2 := Lib.hid (X1.out.trans (b2.mono X1.out.size))
  clear b2
  go_upto_region 4 with (refine Arr.storeL (Arr.new w2 _ _) rfl 24 (.tmp 7) (.tmp 13) rfl rfl (Lib.byteCells D) rfl dig_size (by rfl) N32.out (bytes_one _) ?_)
  generalize hw3 : World.setRow _ _ _ = w3
  obtain ⟨p7, b3, z3⟩ := filled hw3
  have X3 := Lib.hid (X2.out.trans (b3.mono X2.out.size))
  have P7 := Lib.hid p7
  obtain ⟨g7, hg7⟩ : ∃ g, w2.heap.size = g := ⟨_, rfl⟩
  rw [hg7] at P7 ⊢
  clear b3 hw3 p7 hg7 z3
  by_cases h64 : 64 < l0.length
  · have ct : decide ((l0.length : Int) > 64) = true := decide_eq_true (by omega)
    have HDs := Lib.hid (dsum_any a0 l0 c0 w3 ((HA.out.below X3.out).more X3.out.size) (Nat.le_trans hl0 (by decide)) (HI.out.below X3.out) (HK.out.below X3.out))
    obtain ⟨M, hM⟩ : ∃ M, HashM.sum l0 = M := ⟨_, rfl⟩
    have HMl := Lib.hid (show M.length = 32 by rw [← hM, sum_len])
    have NM := Lib.hid (show (Lib.byteCells M).length = 32 by rw [Lib.byteCells_length]; exact HMl.out)
    have HMD := Lib.hid (show hm M l1 = D by rw [← HD.out]; exact hm_key (by rw [← hM]; exact kb_long l0 h64) l1)
    rw [hM] at HDs
    clear hM
    go_wp2_with fail
    refine HDs.out.mono ?_
    clear HDs
    rintro e w4 ⟨rfl, b4⟩
    have X4 := Lib.hid (X3.out.trans (b4.mono X3.out.size))
    have P74 := Lib.hid (P7.out.below b4 P7.out.lt)
    clear b4 P7
    go_upto_region 6 with (refine Arr.storeL (Arr.new w4 _ _) rfl 24 (.tmp 8) (.tmp 18) rfl rfl (Lib.byteCells M) rfl dig_size (by rfl) NM.out (bytes_one _) ?_)
    generalize hw5 : World.setRow _ _ _ = w5
    obtain ⟨p8, b5, z5⟩ := filled hw5
    have X5 := Lib.hid (X4.out.trans (b5.mono X4.out.size))
    have P75 := Lib.hid (P74.out.below b5 P74.out.lt)
    have P8 := Lib.hid p8
    obtain ⟨g8, hg8⟩ : ∃ g, w4.heap.size = g := ⟨_, rfl⟩
    rw [hg8] at P8 ⊢
    clear b5 hw5 p8 hg8 z5 P74 ct
    have hne := ab w5
    have x0 := (Below.refl w5.heap.size w5).drew
    obtain ⟨V0, hV0⟩ : ∃ x, w5.drew = x := ⟨_, rfl⟩
    refine wp_region_tree (.read 0 (.read 1 (.read 3 (.step 2 (.read 4 (.read 5 .done)))))) (fun W => ∃ x : Ab w5, W = x.val) (by kernel_rfl) (by kernel_rfl) (by decide) (fun _ _ d _ _ h => by cases d <;> exact h) (Cl.of (Below.refl _ _).drew) ?_
    rw [hV0] at x0 ⊢
    clear hV0
    have hsu := msum_any (some ⟨g8, 0, none⟩) M 32 a1 l1 c1 V0 (arr_bs (P8.out.below x0 P8.out.lt) (Nat.lt_of_lt_of_le P8.out.lt x0.size)) (by rw [HMl.out]; exact Nat.le_refl _) ((HB.out.below (X5.out.trans (x0.mono X5.out.size))).more (X5.out.trans (x0.mono X5.out.size)).size) hc1 (by rw [HMl.out]; decide) hl1 (HT.out.below (X5.out.trans (x0.mono X5.out.size)))
    rw [HMl.out, HMD.out] at hsu
    have HSu := Lib.hid hsu
    clear hsu
    iterate 2 (refine tree_read rfl (fun K hK => ?_); go_simp; refine hK _ ?_; clear hK K)
    refine tree_read rfl (fun K hK => want rfl ⟨_, fun W hW => Arr.loadPartE (zs := []) (by rw [List.append_nil]; exact P75.out.below (Cl.below hW) P75.out.lt) 24 (.tmp 7) rfl rfl dig rfl dig_size N32.out, hK _ ?_⟩)
    clear hK K
    refine tree_step rfl (Cl.of x0) (fun K hK => ?_)
    go_simp
    refine HSu.out.mono ?_
    clear HSu
    rintro e V1 ⟨rfl, b1⟩
    have x1 := x0.trans (b1.mono x0.size)
    refine hK _ _ ⟨Cl.of x1, ?_⟩
    clear hK K b1
    have heq : ∀ x : Ab w5, (Op.equalIn 10000 24 (.agg (Lib.byteCells D).toArray) (.agg (Lib.byteCells D).toArray)).run Tryd.prog x.val = .ok true x.val := fun x => eql_dig D HDl.out x.val
    iterate 2 (refine tree_read rfl (fun K hK => ?_); go_simp; refine hK _ ?_; clear hK K)
    refine tree_done ?_
    go_wp2
    go_ret
    exact ⟨rfl, X5.out.trans (x1.mono X5.out.size)⟩
  · have ct : decide ((l0.length : Int) > 64) = false := decide_eq_false (by omega)
    by_cases hn : n < 0 ∨ n > 64 - (l0.length : Int)
    · have c1' : (n < 0) ∨ ¬ (n < 0) := by omega
      rcases c1' with h | h
      · have ct2 : decide (n < 0) = true := decide_eq_true h
        go_wp2
        go_ret
        exact ⟨rfl, X3.out⟩
      · have ct2 : decide (n < 0) = false := decide_eq_false h
        have ct3 : decide (n > 64 - (l0.length : Int)) = true := decide_eq_true (by omega)
        go_wp2
        go_ret
        exact ⟨rfl, X3.out⟩
    · obtain ⟨m, rfl⟩ : ∃ m : Nat, n = (m : Int) := ⟨n.toNat, by omega⟩
      have ct2 : decide ((m : Int) < 0) = false := decide_eq_false (by omega)
      have ct3 : decide ((m : Int) > 64 - (l0.length : Int)) = false := decide_eq_false (by omega)
      go_upto_region 9 with (fail)
      have hlm : l0.length + m ≤ 64 := by omega
      have HMD := Lib.hid (show hm (l0 ++ List.replicate m 0) l1 = D by rw [← HD.out]; exact hm_key (kb_more l0 m hlm) l1)
      have hne := ab w3
      have x0 := (Below.refl w3.heap.size w3).drew
      obtain ⟨V0, hV0⟩ : ∃ x, w3.drew = x := ⟨_, rfl⟩
      clear ct ct2 ct3 hn
      refine wp_region_tree (.read 0 (.read 2 (.read 4 (.read 6 (.step 1 (.step 3 (.step 5 (.read 7 (.read 8 .done))))))))) (fun W => ∃ x : Ab w3, W = x.val) (by kernel_rfl) (by kernel_rfl) (by decide) (fun _ _ d _ _ h => by cases d <;> exact h) (Cl.of (Below.refl _ _).drew) ?_
      rw [hV0] at x0 ⊢
      clear hV0
      have HCl := Lib.hid (SCloneW.clone_any a0 l0 c0 V0 ((HA.out.below (X3.out.trans (x0.mono X3.out.size))).more (X3.out.trans (x0.mono X3.out.size)).size) (by omega))
      iterate 3 (refine tree_read rfl (fun K hK => ?_); go_simp; refine hK _ ?_; clear hK K)
      refine tree_read rfl (fun K hK => want rfl ⟨_, fun W hW => Arr.loadPartE (zs := []) (by rw [List.append_nil]; exact P7.out.below (Cl.below hW) P7.out.lt) 24 (.tmp 7) rfl rfl dig rfl dig_size N32.out, hK _ ?_⟩)
      clear hK K
      refine tree_step rfl (Cl.of x0) (fun K hK => ?_)
      go_simp
      refine HCl.out.mono ?_
      clear HCl
      rintro e V1 ⟨v1, rfl, r1, b1⟩
      have x1 := x0.trans (b1.mono x0.size)
      refine hK _ _ ⟨Cl.of x1, ?_⟩
      clear hK K
      obtain ⟨v2, V2, hr2, r2, b2⟩ := appz_run r1 22 m (by omega) b1.size
      have x2 := x1.trans (b2.mono x0.size)
      refine tree_step rfl (Cl.of x1) (fun K hK => want rfl ?_)
      refine Lib.wp_append_run V1 (.tmp 34) (.tmp 35) 22 3 rfl v1 (.int .i64 (m : Int)) rfl rfl v2 V2 hr2 ?_
      refine hK _ _ ⟨Cl.of x2, ?_⟩
      clear hK K b1 b2 hr2 r1
      obtain ⟨A2, c2, rfl, s2, hc2⟩ := r2.form2
      have Y2 := X3.out.trans (x2.mono X3.out.size)
      have hsu := msum_any A2 (l0 ++ List.replicate m 0) c2 a1 l1 c1 V2 s2 hc2 ((HB.out.below Y2).more Y2.size) hc1 (by simp; omega) hl1 (HT.out.below Y2)
      rw [HMD.out, List.length_append, List.length_replicate] at hsu
      have HSu := Lib.hid hsu
      clear hsu r2 s2 Y2
      refine tree_step rfl (Cl.of x2) (fun K hK => ?_)
      go_simp
      refine HSu.out.mono ?_
      clear HSu
      rintro e V3 ⟨rfl, b3⟩
      have x3 := x2.trans (b3.mono x2.size)
      refine hK _ _ ⟨Cl.of x3, ?_⟩
      clear hK K b3
      have heq : ∀ x : Ab w3, (Op.equalIn 10000 24 (.agg (Lib.byteCells D).toArray) (.agg (Lib.byteCells D).toArray)).run Tryd.prog x.val = .ok true x.val := fun x => eql_dig D HDl.out x.val
      iterate 2 (refine tree_read rfl (fun K hK => ?_); go_simp; refine hK _ ?_; clear hK K)
      refine tree_done ?_
      go_wp2
      go_ret
      exact ⟨rfl, X3.out.trans (x3.mono X3.out.size)⟩
end Go.Proofs.YtehlolklbdbhkaaDoor.MacKeysL
