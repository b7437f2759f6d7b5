/-
  ticketwardref.DBegin, DSum: what they hand back. Conditions: in each statement.
-/
import Derived.Test.YtnlhcogmccladaaDoorHashD
import Derived.Test.YtnlhcogmccladaaDoorHashMath
import Derived.Test.YtnlhcogmccladaaDoorHashEnd
namespace Go.Proofs.YtnlhcogmccladaaDoor.HashRefW
open Go.RowKit BytesW CellsW WordsW ArrW HashM HashX HashMath HashSumW HashSameW HashBlockW

/-- The table of the square roots. -/
def TabI (w : World) : Prop := ∀ j, j < 8 → w.cell? ⟨0, j, none⟩ = some (.int .u32 ((IV.getD j 0 : Nat) : Int))
theorem TabI.below {w w' : World} (h : TabI w) (hb : Below w.heap.size w w') : TabI w' := fun j hj => (hb.cell (World.block_lt_of_cell? _ _ (h j hj))).trans (h j hj)

set_option maxHeartbeats 4000000 in
set_option maxRecDepth 100000 in
theorem dbegin_any (w : World) (hT : TabI w) : Calls Tryd.prog 40 #[] w fun e w' => e = .returned (.agg (wc IV).toArray) ∧ Below w.heap.size w w' := by
  have HT := Lib.hid hT
  clear hT
  go_enter Tryd.func40, Tryd.ntmps40
  go_upto_region 2 with (fail)
  generalize hW : World.alloc _ _ = W
  obtain ⟨H0, H1, hbw, hsz⟩ := start2 hW
  clear hW
  have a0 : Arr W w.heap.size 59 (wc [0, 0, 0, 0, 0, 0, 0, 0]) := H0
  have a1 : Arr W (w.heap.size + 1) 59 (wc (mid [0, 0, 0, 0, 0, 0, 0, 0] IV 0)) := H1
  have A0 := Lib.hid a0
  have A1 := Lib.hid a1
  have HB := Lib.hid hbw
  have HSZ := Lib.hid hsz
  have t0 := (HT.out.below hbw) 0 (by decide)
  have t1 := (HT.out.below hbw) 1 (by decide)
  have t2 := (HT.out.below hbw) 2 (by decide)
  have t3 := (HT.out.below hbw) 3 (by decide)
  have t4 := (HT.out.below hbw) 4 (by decide)
  have t5 := (HT.out.below hbw) 5 (by decide)
  have t6 := (HT.out.below hbw) 6 (by decide)
  have t7 := (HT.out.below hbw) 7 (by decide)
  clear a0 a1 H0 H1 hbw hsz
  go_wp2
  rw [show (#[.int .u32 ((IV[0]?.getD 0 : Nat) : Int), .int .u32 ((IV[1]?.getD 0 : Nat) : Int), .int .u32 ((IV[2]?.getD 0 : Nat) : Int), .int .u32 ((IV[3]?.getD 0 : Nat) : Int), .int .u32 ((IV[4]?.getD 0 : Nat) : Int), .int .u32 ((IV[5]?.getD 0 : Nat) : Int), .int .u32 ((IV[6]?.getD 0 : Nat) : Int), .int .u32 ((IV[7]?.getD 0 : Nat) : Int)] : Array Value) = (wc IV).toArray from rfl]
  clear t0 t1 t2 t3 t4 t5 t6 t7
  obtain ⟨o, ho⟩ : ∃ o : List Nat, o = [0, 0, 0, 0, 0, 0, 0, 0] := ⟨_, rfl⟩
  obtain ⟨r, hr⟩ : ∃ r : List Nat, r = IV := ⟨_, rfl⟩
  have hol : o.length = 8 := by rw [ho]; rfl
  have hrl : r.length = 8 := by rw [hr]; rfl
  have HSt := Lib.hid (fun k hk => mid_set o r k hol hrl hk)
  have HGt := Lib.hid (fun k hk => mid_get o r k hol hrl hk)
  have HEnd := Lib.hid (mid_end o r hol hrl)
  have HXk : Hid (∀ k, k < 8 → (wc r)[k]? = some (.int .u32 ((r.getD k 0 : Nat) : Int))) := Lib.hid (fun k hk => wc_getD r k (by omega))
  have HR8 := Lib.hid (show (wc r).length = 8 by rw [wc_length]; exact hrl)
  have HRI := Lib.hid hr
  rw [← ho, ← hr] at A1
  rw [← hr]
  clear ho hr hol hrl
  go_loopw [5] (fun i wr => ∃ k : Nat, k ≤ 8 ∧ i = .int .i64 (k : Int) ∧ Arr wr (w.heap.size + 1) 59 (wc (mid o r k)) ∧ W.grownBy wr (some (w.heap.size + 1))) (fun i _ => 8 - (intOf i).toNat)
  case atStart => exact ⟨0, by omega, rfl, A1.out, grownRefl _ _⟩
  case round =>
    obtain ⟨k, hk, rfl, a1, hg⟩ := hrel
    by_cases hlt : k < 8
    · have ct : decide ((k : Int) < 8) = true := decide_eq_true (by omega)
      have c1 := a1.cell k
      rw [HGt.out k hlt] at c1
      have f1 := a1.frozen k
      have hix : (Instr.index 59 (.agg (wc r).toArray) (.int .i64 (k : Int))).run Tryd.prog wr = .ok (.int .u32 ((r.getD k 0 : Nat) : Int)) wr := run_index_arr wr _ 58 8 _ k _ _ arr8 word_desc rfl word_size hlt (by have := HXk.out k hlt; simpa using this)
      have b1 := a1.set k (.int .u32 ((r.getD k 0 : Nat) : Int))
      rw [HSt.out k hlt] at b1
      have B1 := Lib.hid b1
      generalize r.getD k 0 = rk at *
      generalize o.getD k 0 = ok at *
      clear a1 b1
      go_wp2
      go_roundw
      case rel => exact ⟨k + 1, by omega, by go_num, B1.out, grownTrans hg (grownSet _ _ _ _)⟩
      case measure => simp [intOf]; omega
    · obtain rfl : k = 8 := by omega
      have ct : decide ((8 : Int) < 8) = false := rfl
      rw [HEnd.out] at a1
      have A1' := Lib.hid a1
      have A0' := Lib.hid (HashX.arr_grown A0.out hg (by omega))
      have AF := Lib.hid (A0'.out.row (wc r))
      have HBF := Lib.hid (below_row (HB.out.trans (grownBelow hg (by omega) HB.out.size)) (Nat.le_refl _) (wc r).toArray)
      clear a1 hg hlt
      simp only [show ((8 : Nat) : Int) = 8 from rfl]
      go_wp2_with (first | (refine Arr.loadL A1'.out rfl 59 (.tmp 1) rfl rfl arr8 rfl arr8_size HR8.out ?_) | (refine Arr.storeL A0'.out rfl 59 (.tmp 0) (.tmp 13) rfl rfl (wc r) rfl arr8_size (by rfl) HR8.out (wc_one r) ?_))
      refine bodyPost_ret (v := .agg (wc r).toArray) (by exact AF.out.ret rfl _ rfl arr8 rfl arr8_size HR8.out) rfl ⟨by rw [HRI.out], HBF.out⟩

set_option maxHeartbeats 4000000 in
set_option maxRecDepth 100000 in
theorem dsum_any (A : Option Addr) (l : List UInt8) (c : Nat) (w : World) (hA : Bs w w.heap.size A l) (hl : l.length ≤ 140737488354000) (hI : TabI w) (hT : TabK w) :
    Calls Tryd.prog 32 #[.slice A l.length c] w fun e w' => e = .returned (.agg (Lib.byteCells (HashM.sum l)).toArray) ∧ Below w.heap.size w w' := by
  have HI := Lib.hid hI
  have HT := Lib.hid hT
  have HA := Lib.hid hA
  clear hI hT hA
  go_enter Tryd.func32, Tryd.ntmps32
  go_upto_region 1 with (fail)
  generalize hW : World.alloc _ _ = W
  obtain ⟨H0, hbw, hsz⟩ := start1 hW
  clear hW
  have a1 : Arr W w.heap.size 27 (Lib.byteCells (List.replicate 32 0)) := H0
  have A1 := Lib.hid a1
  have HB := Lib.hid hbw
  have HSZ := Lib.hid hsz
  have HDB := Lib.hid (dbegin_any W (HI.out.below hbw))
  clear H0 a1 hbw hsz
  go_wp2_with fail
  refine HDB.out.mono ?_
  clear HDB
  rintro e w1 ⟨rfl, hb1⟩
  have HB1 := Lib.hid (HB.out.trans (hb1.mono (by have := HSZ.out; omega)))
  have A11 := Lib.hid (A1.out.below hb1 (by have := HSZ.out; omega))
  have HSZ1 := Lib.hid (show w.heap.size + 1 ≤ w1.heap.size by have := HSZ.out; have := hb1.size; omega)
  have HDE := Lib.hid (HashEndW.dend_any 0x6a09e667 0xbb67ae85 0x3c6ef372 0xa54ff53a 0x510e527f 0x9b05688c 0x1f83d9ab 0x5be0cd19 A l c l.length w1 ((HA.out.below HB1.out).more HB1.out.size) (HT.out.below HB1.out) (by unfold St.small; decide) hl (by omega))
  have N32 := Lib.hid (show (Lib.byteCells (HashM.sum l)).length = 32 by rw [Lib.byteCells_length]; exact hend_len IV sm_IV l _)
  clear hb1 A1 HB HSZ
  go_wp2_with fail
  refine HDE.out.mono ?_
  rintro e w4 ⟨rfl, hb4⟩
  rw [show hend [0x6a09e667, 0xbb67ae85, 0x3c6ef372, 0xa54ff53a, 0x510e527f, 0x9b05688c, 0x1f83d9ab, 0x5be0cd19] l l.length = HashM.sum l from rfl]
  have A14 := Lib.hid (A11.out.below hb4 (by have := HSZ1.out; omega))
  have AF := Lib.hid (A14.out.row (Lib.byteCells (HashM.sum l)))
  have HBF := Lib.hid (below_row (HB1.out.trans (hb4.mono (by have := HSZ1.out; omega))) (Nat.le_refl _) (Lib.byteCells (HashM.sum l)).toArray)
  clear hb4
  go_wp2_with (refine Arr.storeL A14.out rfl 27 (.tmp 2) (.tmp 7) rfl rfl (Lib.byteCells (HashM.sum l)) rfl dig_size (by simp [Lib.byteCells]) N32.out (bytes_one _) ?_)
  refine bodyPost_ret (v := .agg (Lib.byteCells (HashM.sum l)).toArray) (by exact AF.out.ret rfl _ rfl dig rfl dig_size N32.out) rfl ⟨rfl, HBF.out⟩
end Go.Proofs.YtnlhcogmccladaaDoor.HashRefW
