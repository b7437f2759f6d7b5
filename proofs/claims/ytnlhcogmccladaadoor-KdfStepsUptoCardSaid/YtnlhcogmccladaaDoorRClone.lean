/-
  slices.Clone[[][]byte,[]byte]: a slice of rows of the call's own, with the same rows. Conditions: in the statement.
-/
import Derived.Test.YtnlhcogmccladaaDoorKb
import Derived.WalkKit
import Derived.BigCall
import Derived.Lib.Hide
import Derived.Deep.DeepMust
import Derived.Lib.SliceRun
namespace Go.Proofs.YtnlhcogmccladaaDoor.RCloneW
open Go.RowKit BytesW CellsW RowsW

set_option maxHeartbeats 2000000 in
set_option maxRecDepth 100000 in
theorem clone_any (A : Option Addr) (ls : List (List UInt8)) (c : Nat) (w : World) (hA : Ms w w.heap.size A ls) (hl : ls.length * 24 ≤ 140737488355328) :
    Calls Tryd.prog 17 #[.slice A ls.length c] w fun e w' => ∃ v, e = .returned v ∧ MRow w.heap.size w' v ls ∧ Below w.heap.size w w' := by
  have q : ∀ (w : World) (a : Option Addr) (n c n' c' : Nat), (binOp .eql 31 (.slice a n c) (.slice none n' c')).run Tryd.prog w = .ok (.bool a.isNone) w := fun w a n c n' c' => Lib.run_eql_slice_nil w _ _ a n c n' c' Tryd.underlying31
  cases A with
  | none =>
    have hl0 : ls = [] := by
      cases ls with
      | nil => rfl
      | cons x r => obtain ⟨ad, e, _⟩ := hA (by simp); cases e
    subst hl0
    go_enter Tryd.func17, Tryd.ntmps17
    go_wp2
    go_ret
    exact ⟨_, rfl, MRow.nil _ _, Below.refl _ _⟩
  | some ad =>
    have hr : MRow w.heap.size (w.alloc (.cells #[] 22)) (.slice (some ⟨w.heap.size, 0, none⟩) 0 0) [] := ⟨[], by
      unfold VRow
      exact ⟨rfl, .inr ⟨w.heap.size, 0, #[], rfl, Nat.le_refl _, heap_alloc_new _ _, Nat.le_refl _, Nat.zero_le _, rfl, rfl⟩⟩, rfl, fun k u l hu _ => by simp at hu⟩
    have hb := (Below.refl w.heap.size w).alloc (Nat.le_refl _) (.cells #[] 22)
    obtain ⟨us, hus⟩ : ∃ us : List Value, us.length = ls.length ∧ ∀ (k : Nat) u l, us[k]? = some u → ls[k]? = some l → ∃ a c', u = .slice a l.length c' ∧ l.length ≤ c' ∧ Bs w w.heap.size a l ∧ w.cell? (ad.add k) = some u := by
      by_cases h0 : 0 < ls.length
      · obtain ⟨ad', e, _, hc⟩ := hA h0
        cases e
        refine ⟨(List.range ls.length).map fun k => (w.cell? (ad.add k)).getD undef, by simp, fun k u l hu hl => ?_⟩
        obtain ⟨hk, hl'⟩ := List.getElem?_eq_some_iff.1 hl
        obtain ⟨a, c', h1, h2, h3⟩ := hc k hk
        rw [List.getElem?_map, List.getElem?_range hk] at hu
        simp [h1] at hu
        subst hu
        subst hl'
        exact ⟨a, c', rfl, h3, h2, h1⟩
      · exact ⟨[], by simp; omega, fun k u l hu _ => by simp at hu⟩
    have hE : Es (w.alloc (.cells #[] 22)) (.slice (some ⟨w.heap.size, 0, none⟩) 0 0) us ls := ⟨hus.1, fun k u l hu hl' => by
      obtain ⟨a, c', rfl, h1, h2, _⟩ := hus.2 k u l hu hl'
      refine ⟨a, c', rfl, h1, (h2.below hb).more hb.size, fun h0 p hp e => ?_⟩
      obtain ⟨p', hp', hlt, _⟩ := h2 h0
      rw [hp] at hp'
      cases hp'
      simp [Value.ownBlock] at e
      omega⟩
    have hcell : ∀ (j : Nat) u, us[j]? = some u → (w.alloc (.cells #[] 22)).cell? (ad.add j) = some u := fun j u hu => by
      have hj := (List.getElem?_eq_some_iff.1 hu).1
      have hj' : j < ls.length := by rw [← hus.1]; exact hj
      obtain ⟨a, c', _, _, _, h4⟩ := hus.2 j u ls[j] hu (List.getElem?_eq_getElem hj')
      exact (hb.cell (World.block_lt_of_cell? _ _ h4)).trans h4
    have HE := Lib.hid hE
    have HC := Lib.hid hcell
    have HR := Lib.hid hr
    have HBb := Lib.hid hb
    clear hE hcell hr hb hus hA
    go_enter Tryd.func17, Tryd.ntmps17
    go_wp2_with (at_builtin; go_must (refine mappN rfl (.tmp 5) (.tmp 6) rfl w.heap.size _ [] rfl HR.out (some ad) c us ls rfl HE.out (fun _ => ⟨ad, rfl, HC.out⟩) (by simpa using hl) (by simp) ?_))
    intro v' w' hrow hb'
    go_wp2
    go_ret
    exact ⟨_, rfl, by simpa using hrow, HBb.out.trans hb'⟩
end Go.Proofs.YtnlhcogmccladaaDoor.RCloneW
