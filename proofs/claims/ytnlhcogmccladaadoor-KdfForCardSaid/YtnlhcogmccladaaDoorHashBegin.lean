/-
  hash.Begin: what it hands back. Conditions: none.
-/
import Derived.Test.YtnlhcogmccladaaDoorHashX
import Derived.Test.YtnlhcogmccladaaDoorKc
import Derived.Test.YtnlhcogmccladaaDoorHashTurnM
import Derived.Deep.DeepCutAuto
import Derived.Test.YtnlhcogmccladaaDoorHashC
namespace Go.Proofs.YtnlhcogmccladaaDoor.HashRightW
open Go.RowKit BytesW CellsW WordsW ArrW HashM HashX HashSumW

set_option maxHeartbeats 4000000 in
set_option maxRecDepth 100000 in
theorem begin_any (w : World) :
    Calls Tryd.prog 37 #[] w fun e w' => e = .returned (.agg (hc IV 0 (.slice none 0 0)).toArray) ∧ Below w.heap.size w w' := by
  go_enter Tryd.func37, Tryd.ntmps37
  obtain ⟨fs, u27⟩ := hash_struct
  have I := Lib.hid hash_size
  have N := Lib.hid (hc_len IV 0 (.slice none 0 0) rfl)
  go_upto_region 1 with (fail)
  go_wp2_with (refine Arr.storeL (Arr.new w _ _) rfl 61 (.tmp 0) (.tmp 2) rfl rfl (hc IV 0 (.slice none 0 0)) rfl I.out (by rfl) N.out (hc_one _ _ _ _ _) ?_)
  generalize hw3 : World.setRow _ _ _ = w3
  obtain ⟨a2, hb3, hs3⟩ := filled hw3
  refine bodyPost_ret (v := .agg (hc IV 0 (.slice none 0 0)).toArray) (by exact a2.ret rfl _ rfl u27 rfl I.out N.out) rfl ⟨rfl, hb3⟩
end Go.Proofs.YtnlhcogmccladaaDoor.HashRightW
