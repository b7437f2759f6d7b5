/-
  A slice of rows that the call owns, an element of it replaced. Conditions: in the statement.
-/
import Derived.Test.YtnlhcogmccladaaDoorKb
import Derived.Test.YtnlhcogmccladaaDoorKc
import Derived.Laws.OwnMore
namespace Go.Proofs.YtnlhcogmccladaaDoor.MRowSet
open Go.RowKit BytesW CellsW RowsW

theorem set_at {B : Nat} {w : World} {g n c : Nat} {ls : List (List UInt8)} (h : MRow B w (.slice (some ⟨g, 0, none⟩) n c) ls) (k : Nat) (X : Option Addr) (l : List UInt8) (c' : Nat) (hc : l.length ≤ c') (hX : Bs w w.heap.size X l) (hne : 0 < l.length → ∀ ad, X = some ad → ad.block ≠ g) :
    MRow B (w.setCell ⟨g, k, none⟩ (.slice X l.length c')) (.slice (some ⟨g, 0, none⟩) n c) (ls.set k l) ∧ w.grownBy (w.setCell ⟨g, k, none⟩ (.slice X l.length c')) (some g) := by
  obtain ⟨us, h1, h2⟩ := h
  have hn : us.length = n := by
    obtain ⟨A, c2, e, _⟩ := h1.form
    cases e
    rfl
  subst hn
  unfold VRow at h1
  obtain ⟨s1, s2⟩ := World.ownsRow.stored h1 k (.slice X l.length c')
  refine ⟨⟨us.set k (.slice X l.length c'), by unfold VRow; rw [List.length_set]; exact s1, by rw [List.length_set, List.length_set]; exact h2.1, fun j u m hu hm => ?_⟩, s2⟩
  by_cases hj : j = k
  · subst hj
    have hju : j < us.length := by
      have := (List.getElem?_eq_some_iff.1 hu).1
      simpa using this
    rw [List.getElem?_set_self hju] at hu
    rw [List.getElem?_set_self (by rw [← h2.1]; exact hju)] at hm
    cases hu
    cases hm
    refine ⟨X, c', rfl, hc, ArrG.bs_keep hX s2 hne, fun h0 ad e he => ?_⟩
    have := hne h0 ad e
    cases he
    exact this rfl
  · rw [List.getElem?_set_ne (fun e => hj e.symm)] at hu hm
    exact (h2.2 j u m hu hm).grown s2 (fun _ hk => .inl hk)
end Go.Proofs.YtnlhcogmccladaaDoor.MRowSet
