/-
  ticketwardref.SameHash at two that are the same. Conditions: in the statement.
-/
import Derived.Test.YtfbgiobbkdbboaaDoorHashSum
import Derived.Test.YtfbgiobbkdbboaaDoorArrEq
namespace Go.Proofs.YtfbgiobbkdbboaaDoor.HashSameW
open Go.RowKit BytesW CellsW WordsW ArrW HashM HashX HashMath HashRightW HashSumW

theorem word_desc : Tryd.prog.underlying 24 = some (.int .u32) := by kernel_rfl
theorem word_size : (Tryd.prog.info? 24).map (·.size) = some 1 := by kernel_rfl
theorem byte_desc : Tryd.prog.underlying 5 = some (.int .u8) := by kernel_rfl
theorem byte_size : (Tryd.prog.info? 5).map (·.size) = some 1 := by kernel_rfl
theorem eql_state (S : List Nat) (h : S.length = 8) (w : World) : (Op.equalIn 10000 25 (.agg (wc S).toArray) (.agg (wc S).toArray)).run Tryd.prog w = .ok true w :=
  run_eq_arr w 9998 _ _ 8 _ _ .u32 arr8 word_desc word_size (fun i hi => ⟨_, by simpa using wc_getD S i (by omega), by simpa using wc_getD S i (by omega)⟩)
theorem eql_dig (D : List UInt8) (h : D.length = 32) (w : World) : (Op.equalIn 10000 31 (.agg (Lib.byteCells D).toArray) (.agg (Lib.byteCells D).toArray)).run Tryd.prog w = .ok true w :=
  run_eq_arr w 9998 _ _ 32 _ _ .u8 dig byte_desc byte_size (fun i hi => ⟨_, by simpa using bc_getD D i (by omega), by simpa using bc_getD D i (by omega)⟩)

set_option maxHeartbeats 4000000 in
set_option maxRecDepth 100000 in
theorem same_any (S : List Nat) (hS : S.length = 8) (long : Int) (B1 B2 : Option Addr) (l : List UInt8) (c1 c2 : Nat) (w : World) (h1 : Bs w w.heap.size B1 l) (h2 : Bs w w.heap.size B2 l) :
    Calls Tryd.prog 8 #[.agg (hc S long (.slice B1 l.length c1)).toArray, .agg (hc S long (.slice B2 l.length c2)).toArray] w fun e w' => e = .returned (.bool true) ∧ Below w.heap.size w w' := by
  have H1 := Lib.hid h1
  have H2 := Lib.hid h2
  clear h1 h2
  go_enter Tryd.func8, Tryd.ntmps8
  go_upto_region 1 with (fail)
  generalize hW : World.alloc _ _ = W
  obtain ⟨x0, x1, hbw, hsz⟩ := start2 hW
  clear hW
  have a0 : Arr W w.heap.size 27 (wc S ++ [.int .i64 long, .slice B1 l.length c1]) := x0
  have a1 : Arr W (w.heap.size + 1) 27 (wc S ++ [.int .i64 long, .slice B2 l.length c2]) := x1
  have A0 := Lib.hid a0
  have A1 := Lib.hid a1
  have HB := Lib.hid hbw
  have e0 : Arr W w.heap.size 27 (hc S long (.slice B1 l.length c1)) := x0
  have e1 : Arr W (w.heap.size + 1) 27 (hc S long (.slice B2 l.length c2)) := x1
  have c8 := e0.cell 8
  rw [hc_8 S _ _ hS] at c8
  have c9 := e0.cell 9
  rw [hc_9 S _ _ hS] at c9
  have d8 := e1.cell 8
  rw [hc_8 S _ _ hS] at d8
  have d9 := e1.cell 9
  rw [hc_9 S _ _ hS] at d9
  have heq := eql_state S hS W
  have N8 := Lib.hid (show (wc S).length = 8 by rw [wc_length]; exact hS)
  have k1 := (H1.out.below hbw).conv c1
  have k2 := (H2.out.below hbw).conv c2
  clear a0 a1 x0 x1 e0 e1 hbw hsz
  go_wp2_with (first | (refine Arr.loadPartL A0.out rfl 25 (.tmp 5) rfl rfl arr8 rfl arr8_size N8.out ?_) | (refine Arr.loadPartL A1.out rfl 25 (.tmp 7) rfl rfl arr8 rfl arr8_size N8.out ?_))
  go_ret
  exact ⟨rfl, HB.out⟩
end Go.Proofs.YtfbgiobbkdbboaaDoor.HashSameW
