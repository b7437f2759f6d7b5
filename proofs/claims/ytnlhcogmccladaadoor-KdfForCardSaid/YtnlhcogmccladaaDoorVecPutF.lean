/-
  vec.Put: what they hand back, for every argument. Conditions: bounds in each statement.
-/
import Derived.Test.YtnlhcogmccladaaDoorVecApp
namespace Go.Proofs.YtnlhcogmccladaaDoor.VecFnsW
open Go.RowKit BytesW VecAppW RowsW

theorem if_put (n : Int) (acc l : List UInt8) : (if (VecM.put n l).1 = 0 then acc ++ (VecM.put n l).2 else []) = if (VecM.put n l).1 = 0 then acc ++ (VecM.put n l).2 else [] := rfl
theorem put_if (n : Int) (l : List UInt8) : (if (VecM.put n l).1 = 0 then [] ++ (VecM.put n l).2 else []) = (VecM.put n l).2 := by
  by_cases h : (VecM.put n l).1 = 0
  · rw [if_pos h, List.nil_append]
  · rw [if_neg h, VecM.put_err h]

/-- A row of bytes and an error. -/
def ByPost (p : Nat × List UInt8) (w : World) (e : Ending) (w' : World) : Prop :=
  ∃ v', e = .returned (.tuple #[v', .int .i64 (p.1 : Int)]) ∧ Row w.heap.size w' v' p.2 ∧ Below w.heap.size w w'
set_option maxHeartbeats 1000000 in
set_option maxRecDepth 100000 in
theorem put_any (n : Int) (l : List UInt8) (A : Option Addr) (c : Nat) (w : World) (hA : Bs w w.heap.size A l) (hlen : l.length + 3 ≤ 140737488355328) :
    Calls Tryd.prog 23 #[.int .i64 n, .slice A l.length c] w (ByPost (VecM.put n l) w) := by
  have happ := Lib.hid (append_any n (.slice none 0 0) [] l A c w.heap.size w (Row.nil _ _) hA (by simpa using hlen) (Nat.le_refl _))
  clear hA
  go_enter Tryd.func23, Tryd.ntmps23
  go_wp2_with fail
  refine happ.out.mono ?_
  clear happ
  rintro e w1 ⟨v', rfl, hr, hb⟩
  rw [put_if] at hr
  go_wp2
  go_ret2
  exact ⟨_, rfl, hr, hb⟩

end Go.Proofs.YtnlhcogmccladaaDoor.VecFnsW
