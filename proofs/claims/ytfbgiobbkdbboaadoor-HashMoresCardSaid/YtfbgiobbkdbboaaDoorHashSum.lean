/-
  hash.Sum, hash.End: what they hand back. Conditions: in each statement.
-/
import Derived.Test.YtfbgiobbkdbboaaDoorHashFin
import Derived.Test.YtfbgiobbkdbboaaDoorHashRight
namespace Go.Proofs.YtfbgiobbkdbboaaDoor.HashSumW
open Go.RowKit BytesW CellsW WordsW ArrW HashM HashX HashMath HashCompW HashProcW HashDigW HashFinW HashRightW

theorem arr8 : Tryd.prog.underlying 25 = some (.array 8 24) := by kernel_rfl
theorem arr8_size : (Tryd.prog.info? 25).map (·.size) = some 8 := by kernel_rfl
theorem dig : Tryd.prog.underlying 31 = some (.array 32 5) := by kernel_rfl
theorem dig_size : (Tryd.prog.info? 31).map (·.size) = some 32 := by kernel_rfl

theorem field_state (S : List Nat) (long : Int) (v : Value) (h : S.length = 8) (w : World) : (Instr.field 27 (.agg (hc S long v).toArray) 0).run Tryd.prog w = .ok (.agg (wc S).toArray) w := by
  obtain ⟨a, b, c, d, e, f, g, i, rfl⟩ := eight8 h
  kernel_rfl

set_option maxHeartbeats 4000000 in
set_option maxRecDepth 100000 in
theorem sum_any (A : Option Addr) (l : List UInt8) (c : Nat) (w : World) (hA : Bs w w.heap.size A l) (hcl : l.length ≤ c) (hl : l.length < 9223372036854775808) (hT : TabR w) :
    Calls Tryd.prog 11 #[.slice A l.length c] w fun e w' => e = .returned (.agg (Lib.byteCells (HashM.sum l)).toArray) ∧ Below w.heap.size w w' := by
  have HT := Lib.hid hT
  have HA := Lib.hid hA
  clear hT hA
  go_enter Tryd.func11, Tryd.ntmps11
  go_upto_region 1 with (fail)
  generalize hW : World.alloc _ _ = W
  obtain ⟨H0, hbw, hsz⟩ := start1 hW
  clear hW
  have a1 : Arr W w.heap.size 31 (Lib.byteCells (List.replicate 32 0)) := H0
  have A1 := Lib.hid a1
  have HB := Lib.hid hbw
  have HSZ := Lib.hid hsz
  clear H0 a1 hbw hsz
  go_wp2_with fail
  refine (begin_any W).mono ?_
  rintro e w1 ⟨rfl, hb1⟩
  have hf := field_state IV 0 (.slice none 0 0) rfl w1
  have HB1 := Lib.hid (HB.out.trans (hb1.mono (by have := HSZ.out; omega)))
  have A11 := Lib.hid (A1.out.below hb1 (by have := HSZ.out; omega))
  have HSZ1 := Lib.hid (show w.heap.size + 1 ≤ w1.heap.size by have := HSZ.out; have := hb1.size; omega)
  have HP := Lib.hid (process_any IV sm_IV A l c w1 ((HA.out.below HB1.out).more HB1.out.size) hcl (HT.out.below HB1.out))
  clear hb1 A1 HB HSZ
  go_wp2_with fail
  refine HP.out.mono ?_
  clear HP hf
  rintro e w2 ⟨A', c', rfl, hc', hbs, -, hb2⟩
  have HB2 := Lib.hid (HB1.out.trans (hb2.mono HB1.out.size))
  have A12 := Lib.hid (A11.out.below hb2 (by have := HSZ1.out; omega))
  have HSZ2 := Lib.hid (show w.heap.size + 1 ≤ w2.heap.size by have := HSZ1.out; have := hb2.size; omega)
  have HBs := Lib.hid ((hbs.below hb2).more hb2.size)
  have N8 := Lib.hid (show (wc (run IV l)).length = 8 by rw [wc_length]; exact (sm_run l IV sm_IV).1)
  clear hb2 hbs HB1 A11 HSZ1
  go_upto_region 2 with (refine Arr.storeL (Arr.new w2 _ _) rfl 25 (.tmp 3) (.tmp 10) rfl rfl (wc (run IV l)) rfl arr8_size (by rfl) N8.out (wc_one _) ?_)
  generalize hw3 : World.setRow _ _ _ = w3
  obtain ⟨a0, hb3, hs3⟩ := filled hw3
  have A0 := Lib.hid a0
  have HB3 := Lib.hid (HB2.out.trans (hb3.mono HB2.out.size))
  have A13 := Lib.hid (A12.out.below hb3 (by have := HSZ2.out; omega))
  have HSZ3 := Lib.hid (show w.heap.size + 1 ≤ w3.heap.size by have := HSZ2.out; have := hb3.size; omega)
  have HF := Lib.hid (finish_any (run IV l) (sm_run l IV sm_IV) A' (over l) c' l.length w3 ((HBs.out.below hb3).more hb3.size) (over_lt l) hl (HT.out.below HB3.out))
  have HE := Lib.hid (show hend (run IV l) (over l) l.length = HashM.sum l from hend_run IV l l.length)
  have N32 := Lib.hid (show (Lib.byteCells (HashM.sum l)).length = 32 by rw [Lib.byteCells_length]; exact hend_len IV sm_IV l _)
  clear a0 hb3 hs3 hw3 HB2 A12 HSZ2 HBs
  go_wp2_with (refine Arr.loadL A0.out rfl 25 (.tmp 3) rfl rfl arr8 rfl arr8_size N8.out ?_)
  refine HF.out.mono ?_
  rintro e w4 ⟨rfl, hb4⟩
  rw [HE.out]
  have A14 := Lib.hid (A13.out.below hb4 (by have := HSZ3.out; omega))
  have AF := Lib.hid (A14.out.row (Lib.byteCells (HashM.sum l)))
  have HBF := Lib.hid (below_row (HB3.out.trans (hb4.mono (by have := HSZ3.out; omega))) (Nat.le_refl _) (Lib.byteCells (HashM.sum l)).toArray)
  clear hb4
  go_wp2_with (refine Arr.storeL A14.out rfl 31 (.tmp 2) (.tmp 16) rfl rfl (Lib.byteCells (HashM.sum l)) rfl dig_size (by simp [Lib.byteCells]) N32.out (bytes_one _) ?_)
  refine bodyPost_ret (v := .agg (Lib.byteCells (HashM.sum l)).toArray) (by exact AF.out.ret rfl _ rfl dig rfl dig_size N32.out) rfl ⟨rfl, HBF.out⟩

theorem okH_nat {long : Int} {n : Nat} (h : okH long n = true) : ∃ L : Nat, long = (L : Int) ∧ L ≤ 1099511627776 ∧ n = L % 64 := by
  obtain ⟨a, b, c⟩ := of_decide_eq_true h
  exact ⟨long.toNat, by omega, by omega, by omega⟩
/-- What End answers. -/
def endM (S : List Nat) (long : Int) (l : List UInt8) : List UInt8 × Int := if okH long l.length = true then (hend S l long.toNat, 0) else (List.replicate 32 0, 1)

set_option maxHeartbeats 4000000 in
set_option maxRecDepth 100000 in
theorem end_any (S : List Nat) (hS : Sm S) (long : Int) (A : Option Addr) (l : List UInt8) (c : Nat) (w : World) (hA : Bs w w.heap.size A l) (h1 : -9223372036854775808 ≤ long) (h2 : long < 9223372036854775808) (hT : TabR w) :
    Calls Tryd.prog 15 #[.agg (hc S long (.slice A l.length c)).toArray] w fun e w' => e = .returned (.tuple #[.agg (Lib.byteCells (endM S long l).1).toArray, .int .i64 (endM S long l).2]) ∧ Below w.heap.size w w' := by
  obtain ⟨fs, u27⟩ := hash_struct
  have HT := Lib.hid hT
  have HA := Lib.hid hA
  have U27 := Lib.hid u27
  have N10 := Lib.hid (hc_len S long (.slice A l.length c) hS.1)
  clear hT hA u27
  go_enter Tryd.func15, Tryd.ntmps15
  go_upto_region 1 with (fail)
  generalize hW : World.alloc _ _ = W
  obtain ⟨H0, H1, hbw, hsz⟩ := start2 hW
  clear hW
  have a0 : Arr W w.heap.size 27 (hc S long (.slice A l.length c)) := H0
  have a1 : Arr W (w.heap.size + 1) 31 (Lib.byteCells (List.replicate 32 0)) := H1
  have A0 := Lib.hid a0
  have A1 := Lib.hid a1
  have HB := Lib.hid hbw
  have HSZ := Lib.hid hsz
  have HR := Lib.hid (right_any S hS long A l.length c W h1 h2)
  clear H0 H1 a0 a1 hbw hsz
  go_wp2_with (refine Arr.loadL A0.out rfl 27 (.tmp 1) rfl rfl U27.out rfl hash_size N10.out ?_)
  refine HR.out.mono ?_
  clear HR
  rintro e w1 ⟨rfl, hb1⟩
  have A01 := Lib.hid (A0.out.below hb1 (by have := HSZ.out; omega))
  have A11 := Lib.hid (A1.out.below hb1 (by have := HSZ.out; omega))
  have HB1 := Lib.hid (HB.out.trans (hb1.mono (by have := HSZ.out; omega)))
  have HSZ1 := Lib.hid (show w.heap.size + 2 ≤ w1.heap.size by have := HSZ.out; have := hb1.size; omega)
  clear hb1 A0 A1 HB HSZ
  by_cases hok : okH long l.length = true
  · obtain ⟨L, rfl, hL, hlL⟩ := okH_nat hok
    have HE := Lib.hid (show endM S (L : Int) l = (hend S l L, 0) by unfold endM; rw [if_pos hok]; rfl)
    have c8 := A01.out.cell 8
    rw [hc_8 S _ _ hS.1] at c8
    have c9 := A01.out.cell 9
    rw [hc_9 S _ _ hS.1] at c9
    have AP : Hid (Arr w1 w.heap.size 27 (wc S ++ [.int .i64 (L : Int), .slice A l.length c])) := Lib.hid A01.out
    have N8 := Lib.hid (show (wc S).length = 8 by rw [wc_length]; exact hS.1)
    have HF := Lib.hid (finish_any S hS A l c L w1 ((HA.out.below HB1.out).more HB1.out.size) (by omega) (by omega) (HT.out.below HB1.out))
    have N32 := Lib.hid (show (Lib.byteCells (hend S l L)).length = 32 by rw [Lib.byteCells_length]; exact hend_len S hS l _)
    rw [hok]
    clear hok hlL
    go_wp2_with (refine Arr.loadPartL AP.out rfl 25 (.tmp 8) rfl rfl arr8 rfl arr8_size N8.out ?_)
    refine HF.out.mono ?_
    rintro e w4 ⟨rfl, hb4⟩
    have A14 := Lib.hid (A11.out.below hb4 (by have := HSZ1.out; omega))
    have AF := Lib.hid (A14.out.row (Lib.byteCells (hend S l L)))
    have HBF := Lib.hid (below_row (HB1.out.trans (hb4.mono (by have := HSZ1.out; omega))) (show w.heap.size ≤ w.heap.size + 1 by omega) (Lib.byteCells (hend S l L)).toArray)
    clear hb4
    go_wp2_with (refine Arr.storeL A14.out rfl 31 (.tmp 2) (.tmp 14) rfl rfl (Lib.byteCells (hend S l L)) rfl dig_size (by simp [Lib.byteCells]) N32.out (bytes_one _) ?_)
    refine bodyPost_ret (v := .tuple #[.agg (Lib.byteCells (hend S l L)).toArray, .int .i64 0]) (by exact AF.out.ret2 rfl _ rfl rfl dig rfl dig_size N32.out) rfl ⟨by rw [HE.out], HBF.out⟩
  · have hok' : okH long l.length = false := by simpa using hok
    have HE := Lib.hid (show endM S long l = (List.replicate 32 0, 1) by unfold endM; rw [if_neg hok])
    have AF := Lib.hid (A11.out.row (Lib.byteCells (List.replicate 32 0)))
    have HBF := Lib.hid (below_row HB1.out (show w.heap.size ≤ w.heap.size + 1 by omega) (Lib.byteCells (List.replicate 32 0)).toArray)
    rw [hok']
    clear hok hok'
    go_wp2_with (refine Arr.storeL A11.out rfl 31 (.tmp 2) (.tmp 7) rfl rfl (Lib.byteCells (List.replicate 32 0)) rfl dig_size (by rfl) (by rfl) (bytes_one _) ?_)
    refine bodyPost_ret (v := .tuple #[.agg (Lib.byteCells (List.replicate 32 0)).toArray, .int .i64 1]) (by exact AF.out.ret2 rfl _ rfl rfl dig rfl dig_size (by rfl)) rfl ⟨by rw [HE.out], HBF.out⟩
end Go.Proofs.YtfbgiobbkdbboaaDoor.HashSumW
