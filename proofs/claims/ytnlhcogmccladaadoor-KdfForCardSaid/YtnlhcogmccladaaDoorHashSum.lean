/-
  hash.Sum: what it hands back. Conditions: in the statement.
-/
import Derived.Test.YtnlhcogmccladaaDoorHashFin
import Derived.Test.YtnlhcogmccladaaDoorHashBegin
namespace Go.Proofs.YtnlhcogmccladaaDoor.HashSumW
open Go.RowKit BytesW CellsW WordsW ArrW HashM HashX HashMath HashCompW HashProcW HashDigW HashFinW HashRightW

set_option maxHeartbeats 4000000 in
set_option maxRecDepth 100000 in
theorem sum_any (A : Option Addr) (l : List UInt8) (c : Nat) (w : World) (hA : Bs w w.heap.size A l) (hcl : l.length ≤ c) (hl : l.length < 9223372036854775808) (hT : TabR w) :
    Calls Tryd.prog 35 #[.slice A l.length c] w fun e w' => e = .returned (.agg (Lib.byteCells (HashM.sum l)).toArray) ∧ Below w.heap.size w w' := by
  have HT := Lib.hid hT
  have HA := Lib.hid hA
  clear hT hA
  go_enter Tryd.func35, Tryd.ntmps35
  go_upto_region 1 with (fail)
  generalize hW : World.alloc _ _ = W
  obtain ⟨H0, hbw, hsz⟩ := start1 hW
  clear hW
  have a1 : Arr W w.heap.size 27 (Lib.byteCells (List.replicate 32 0)) := H0
  have A1 := Lib.hid a1
  have HB := Lib.hid hbw
  have HSZ := Lib.hid hsz
  clear H0 a1 hbw hsz
  go_wp2_with fail
  refine (begin_any W).mono ?_
  rintro e w1 ⟨rfl, hb1⟩
  have hf := field_state IV 0 (.slice none 0 0) rfl w1
  have HB1 := Lib.hid (HB.out.trans (hb1.mono (by have := HSZ.out; omega)))
  have A11 := Lib.hid (A1.out.below hb1 (by have := HSZ.out; omega))
  have HSZ1 := Lib.hid (show w.heap.size + 1 ≤ w1.heap.size by have := HSZ.out; have := hb1.size; omega)
  have HP := Lib.hid (process_any IV sm_IV A l c w1 ((HA.out.below HB1.out).more HB1.out.size) hcl (HT.out.below HB1.out))
  clear hb1 A1 HB HSZ
  go_wp2_with fail
  refine HP.out.mono ?_
  clear HP hf
  rintro e w2 ⟨A', c', rfl, hc', hbs, -, hb2⟩
  have HB2 := Lib.hid (HB1.out.trans (hb2.mono HB1.out.size))
  have A12 := Lib.hid (A11.out.below hb2 (by have := HSZ1.out; omega))
  have HSZ2 := Lib.hid (show w.heap.size + 1 ≤ w2.heap.size by have := HSZ1.out; have := hb2.size; omega)
  have HBs := Lib.hid ((hbs.below hb2).more hb2.size)
  have N8 := Lib.hid (show (wc (run IV l)).length = 8 by rw [wc_length]; exact (sm_run l IV sm_IV).1)
  clear hb2 hbs HB1 A11 HSZ1
  go_upto_region 2 with (refine Arr.storeL (Arr.new w2 _ _) rfl 59 (.tmp 3) (.tmp 10) rfl rfl (wc (run IV l)) rfl arr8_size (by rfl) N8.out (wc_one _) ?_)
  generalize hw3 : World.setRow _ _ _ = w3
  obtain ⟨a0, hb3, hs3⟩ := filled hw3
  have A0 := Lib.hid a0
  have HB3 := Lib.hid (HB2.out.trans (hb3.mono HB2.out.size))
  have A13 := Lib.hid (A12.out.below hb3 (by have := HSZ2.out; omega))
  have HSZ3 := Lib.hid (show w.heap.size + 1 ≤ w3.heap.size by have := HSZ2.out; have := hb3.size; omega)
  have HF := Lib.hid (finish_any (run IV l) (sm_run l IV sm_IV) A' (over l) c' l.length w3 ((HBs.out.below hb3).more hb3.size) (over_lt l) hl (HT.out.below HB3.out))
  have HE := Lib.hid (show hend (run IV l) (over l) l.length = HashM.sum l from hend_run IV l l.length)
  have N32 := Lib.hid (show (Lib.byteCells (HashM.sum l)).length = 32 by rw [Lib.byteCells_length]; exact hend_len IV sm_IV l _)
  clear a0 hb3 hs3 hw3 HB2 A12 HSZ2 HBs
  go_wp2_with (refine Arr.loadL A0.out rfl 59 (.tmp 3) rfl rfl arr8 rfl arr8_size N8.out ?_)
  refine HF.out.mono ?_
  rintro e w4 ⟨rfl, hb4⟩
  rw [HE.out]
  have A14 := Lib.hid (A13.out.below hb4 (by have := HSZ3.out; omega))
  have AF := Lib.hid (A14.out.row (Lib.byteCells (HashM.sum l)))
  have HBF := Lib.hid (below_row (HB3.out.trans (hb4.mono (by have := HSZ3.out; omega))) (Nat.le_refl _) (Lib.byteCells (HashM.sum l)).toArray)
  clear hb4
  go_wp2_with (refine Arr.storeL A14.out rfl 27 (.tmp 2) (.tmp 16) rfl rfl (Lib.byteCells (HashM.sum l)) rfl dig_size (by simp [Lib.byteCells]) N32.out (bytes_one _) ?_)
  refine bodyPost_ret (v := .agg (Lib.byteCells (HashM.sum l)).toArray) (by exact AF.out.ret rfl _ rfl dig rfl dig_size N32.out) rfl ⟨rfl, HBF.out⟩
end Go.Proofs.YtnlhcogmccladaaDoor.HashSumW
