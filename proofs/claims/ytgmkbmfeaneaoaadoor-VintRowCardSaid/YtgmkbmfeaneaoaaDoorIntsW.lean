/-
  Words for slices of int at this program: a slice value that reads as a list of integers. Conditions: in each statement.
-/
import Derived.Test.YtgmkbmfeaneaoaaDoorBytesW
namespace Go.Proofs.YtgmkbmfeaneaoaaDoor.IntsW
open Go.RowKit BytesW

/-- The slice value '.slice A l.length c' reads as the integers l, below block B. -/
def Is (w : World) (B : Nat) (A : Option Addr) (l : List Int) : Prop :=
  0 < l.length → ∃ ad, A = some ad ∧ ad.block < B ∧ ∀ (k : Nat) (h : k < l.length), w.cell? (ad.add k) = some (.int .i64 l[k])

section
variable {w w' : World} {B B' : Nat} {A : Option Addr} {l : List Int}
theorem Is.nil (w : World) (B : Nat) (A : Option Addr) : Is w B A [] := fun h => absurd h (by simp)
theorem Is.at_ (h : Is w B A l) {k : Nat} (hk : k < l.length) : ∃ ad, A = some ad ∧ ad.block < B ∧ w.cell? (ad.add k) = some (.int .i64 l[k]) := by
  obtain ⟨ad, e, hb, hc⟩ := h (by omega)
  exact ⟨ad, e, hb, hc k hk⟩
theorem Is.more (h : Is w B A l) (hB : B ≤ B') : Is w B' A l := by
  intro h0
  obtain ⟨ad, e, hlt, hc⟩ := h h0
  exact ⟨ad, e, by omega, hc⟩
theorem Is.below (h : Is w B A l) (hb : Below B w w') : Is w' B A l := by
  intro h0
  obtain ⟨ad, e, hlt, hc⟩ := h h0
  exact ⟨ad, e, hlt, fun k hk => (hb.cell (by rw [add_block]; exact hlt)).trans (hc k hk)⟩
end
end Go.Proofs.YtgmkbmfeaneaoaaDoor.IntsW
