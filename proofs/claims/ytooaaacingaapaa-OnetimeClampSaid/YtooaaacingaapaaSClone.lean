/-
  slices.Clone[[]byte,byte]: a row of the call's own with the same bytes. Conditions: in the statement.
-/
import Derived.Test.YtooaaacingaapaaKb
import Derived.WalkKit
import Derived.BigCall
import Derived.Lib.Hide
import Derived.Deep.DeepMust
import Derived.Lib.SliceRun
namespace Go.Proofs.Ytooaaacingaapaa.SCloneW
open Go.RowKit BytesW

set_option maxHeartbeats 2000000 in
set_option maxRecDepth 100000 in
theorem clone_any (A : Option Addr) (l : List UInt8) (c : Nat) (w : World) (hA : Bs w w.heap.size A l) (hl : l.length ≤ 140737488355328) :
    Calls Try.prog 11 #[.slice A l.length c] w fun e w' => ∃ v, e = .returned v ∧ Row w.heap.size w' v l ∧ Below w.heap.size w w' := by
  have q : ∀ (w : World) (a : Option Addr) (n c n' c' : Nat), (binOp .eql 22 (.slice a n c) (.slice none n' c')).run Try.prog w = .ok (.bool a.isNone) w := fun w a n c n' c' => Lib.run_eql_slice_nil w _ _ a n c n' c' Try.underlying22
  cases A with
  | none =>
    have hl0 : l = [] := by
      cases l with
      | nil => rfl
      | cons x r => obtain ⟨ad, e, _⟩ := hA (by simp); cases e
    subst hl0
    go_enter Try.func11, Try.ntmps11
    go_wp2
    go_ret
    exact ⟨_, rfl, Row.nil _ _, Below.refl _ _⟩
  | some ad =>
    have hr := Row.empty w.heap.size w (Nat.le_refl _)
    have hb := (Below.refl w.heap.size w).alloc (Nat.le_refl _) (.cells #[] 5)
    have hA' := hA.below hb
    have H := Lib.hid hA'
    clear hA hA'
    go_enter Try.func11, Try.ntmps11
    go_wp2_with (at_builtin; go_must (refine appN rfl (.tmp 5) (.tmp 6) rfl w.heap.size w.heap.size _ [] rfl hr (some ad) l c rfl H.out (by simp; omega) (by simp) ?_))
    intro v' w' hrow hb'
    go_wp2
    go_ret
    exact ⟨_, rfl, by simpa using hrow, hb.trans hb'⟩
end Go.Proofs.Ytooaaacingaapaa.SCloneW
