/-
  What Seal and Open hand back: a row of the call's own and an error's number. Conditions: none.
-/
import Derived.Test.YtohpgfefdlccmaaKb
namespace Go.Proofs.Ytohpgfefdlccmaa.SealP
open Go.RowKit BytesW

/-- A row of the call's own and an error's number. -/
def PostR (r : List UInt8 × Int) (w : World) (e : Ending) (w' : World) : Prop :=
  ∃ v, e = .returned (.tuple #[v, .int .i64 r.2]) ∧ Row w.heap.size w' v r.1 ∧ Below w.heap.size w w'
end Go.Proofs.Ytohpgfefdlccmaa.SealP
