/-
  slices.Equal of two slices that hold the same digests. Conditions: in the statement.
-/
import Derived.Test.YtnlhcogmccladaaDoorKc
import Derived.Test.YtnlhcogmccladaaDoorHashD
import Derived.Test.YtnlhcogmccladaaDoorHashTurnM
import Derived.Deep.DeepCutAuto
namespace Go.Proofs.YtnlhcogmccladaaDoor.SEqualDW
open Go.RowKit BytesW CellsW ArrW HashSumW HashSameW DigsW

set_option maxHeartbeats 4000000 in
set_option maxRecDepth 100000 in
theorem equal_any (A1 A2 : Option Addr) (ds : List (List UInt8)) (c1 c2 : Nat) (w : World) (h1 : Ds w w.heap.size A1 ds) (h2 : Ds w w.heap.size A2 ds) (hl : ds.length ≤ 4398046511104) :
    Calls Tryd.prog 18 #[.slice A1 ds.length c1, .slice A2 ds.length c2] w fun e w' => e = .returned (.bool true) ∧ ∃ n, w' = w.drewN n := by
  have H1 := Lib.hid h1
  have H2 := Lib.hid h2
  clear h1 h2
  go_enter Tryd.func18, Tryd.ntmps18
  go_wp2
  go_loopw [13] (fun v wr => ∃ k n : Nat, k ≤ ds.length ∧ v = .int .i64 (k : Int) ∧ wr = w.drewN n) (fun v _ => ds.length - (intOf v).toNat)
  case atStart => exact ⟨0, 0, by omega, rfl, rfl⟩
  case round =>
    obtain ⟨k, n, hk, rfl, hw⟩ := hrel
    have HW := Lib.hid hw
    clear hw
    by_cases hlt : k < ds.length
    · have ct : decide ((k : Int) < (ds.length : Int)) = true := decide_eq_true (by omega)
      obtain ⟨p1, rfl, _, l1, b1⟩ := H1.out.at_ hlt
      obtain ⟨p2, rfl, _, l2, b2⟩ := H2.out.at_ hlt
      have HD1 := Lib.hid b1
      have HD2 := Lib.hid b2
      have HL := Lib.hid l1
      have heq := fun W : World => eql_dig ds[k] l1 W
      have HEq := Lib.hid heq
      clear b1 b2 l1 l2 heq
      generalize ds[k] = D at *
      have ik : (k : Int) < (ds.length : Int) := by omega
      go_upto_region 6 with (fail)
      refine Phase.wp_region_phases [([], [0, 1, 2, 3, 4, 5, 6, 7, 8], none)] (fun W => ∃ n, W = wr.drewN n) (by kernel_rfl) (by kernel_rfl) (fun _ _ d _ _ h => by cases d <;> exact h) ⟨1, rfl⟩ ?_
      refine Phase.g_quiet (Phase.p_nil ?_)
      iterate 3 (refine Phase.q_step rfl (fun K hK => ?_); go_simp; refine hK _ ?_; clear hK K)
      refine Phase.q_step rfl (fun K hK => want rfl ?_)
      refine load_bytesQ (fun W (h : ∃ n, W = wr.drewN n) => by obtain ⟨m, rfl⟩ := h; rw [HW.out]; exact HD1.out) 27 (.tmp 18) rfl rfl dig rfl dig_size HL.out ?_
      refine hK _ ?_
      clear hK K
      iterate 3 (refine Phase.q_step rfl (fun K hK => ?_); go_simp; refine hK _ ?_; clear hK K)
      refine Phase.q_step rfl (fun K hK => want rfl ?_)
      refine load_bytesQ (fun W (h : ∃ n, W = wr.drewN n) => by obtain ⟨m, rfl⟩ := h; rw [HW.out]; exact HD2.out) 27 (.tmp 22) rfl rfl dig rfl dig_size HL.out ?_
      refine hK _ ?_
      clear hK K
      have heq := HEq.out
      refine Phase.q_step rfl (fun K hK => ?_)
      go_simp
      refine hK _ ?_
      clear hK K heq
      refine Phase.q_nil (Phase.g_nil ?_)
      rintro W ⟨m, rfl⟩
      go_wp2
      go_roundw
      case rel => exact ⟨k + 1, n + m, by omega, by go_num, by rw [HW.out, World.drewN_drewN]⟩
      case measure => simp [intOf]; omega
    · obtain rfl : k = ds.length := by omega
      have ct : decide ((ds.length : Int) < (ds.length : Int)) = false := decide_eq_false (by omega)
      go_wp2
      go_ret
      exact ⟨rfl, n, HW.out⟩
end Go.Proofs.YtnlhcogmccladaaDoor.SEqualDW
