/-
  No cell of these rows narrows 'for every input' (looked for: loops, veiled, ifaces, maps, wideKeys, modest, calm, conditions, laid).
  DERIVED. THE GIVEN ROWS OF THIS SEAT. 7 by the template 'for every input the law returns true; each argument reads behind the call as it read before'; 0 by the template 'total and deterministic' (their statements: YtgicbjpeagmfcaaTotals.lean).
  GIVEN WITH THE SEED: the statements are not yours to turn. If you find one false, say at which input.
  Laid BY PROGRAM, IN A SANDBOX (cutbox-rows.mjs): the forced cells as the released guide's own fill.sh prints them over the translation 5a7d6d1fec075d4f… (all of the seat's roots in one cut). By AI agents, Wed Nov 11 2026. No macro, syntax, notation, axiom, sorry.
-/
import Derived.Test.YtgicbjpeagmfcaaChecked
import GoSem.Claim
import GoSem.ClaimJoined
import GoSem.ClaimMapViews
import Derived.JoinedTies
import Derived.KernelRfl
namespace Go.Proofs.Ytgicbjpeagmfcaa
/- THE CELL 'sum', in the pinned program and in every row, IS THE sha256 OF THE DUMP (.gsa) THAT YtgicbjpeagmfcaaProg.lean LOADS. Nothing in Lean hashes anything: it is a label: what it is worth is what the hold of that sum in a sandbox is worth. -/
noncomputable def Try.pinned : Pinned := { name := "ytgicbjpeagmfcaa", sum := "5a7d6d1fec075d4fd93f9b239d4b03f1e6a68b96ee20b24f8e807427061836d5", checked := Try.checked }
namespace Rows
def none {H : Type} : Left H := { results := [], args := [] }

/-- 'ticketwardlaw.VecTakes': WHATEVER THE INPUT: true; the input reads as it did. -/
def vecTakesSpec : ChangeSpec := { name := "vecTakes", fn := fun _ => fun
  | [d1, d2] => { results := [.lit (.bool true)], args := [d1, d2] }
  | _ => none }
def vecTakesRow : OpenClaim := { program := "ytgicbjpeagmfcaa", sum := "5a7d6d1fec075d4fd93f9b239d4b03f1e6a68b96ee20b24f8e807427061836d5", func := "ticketward/ticketwardlaw.VecTakes", spec := "vecTakes", apart := false }
def VecTakesSaid : Prop := vecTakesRow.holds Try.pinned (OpenSpec.ofChange vecTakesSpec)

/-- ITS FALSE NEIGHBOUR: 'it returns false'. Refute it at one input. -/
def vecTakesWrong : ChangeSpec := { name := "vecTakes", fn := fun _ => fun
  | [d1, d2] => { results := [.lit (.bool false)], args := [d1, d2] }
  | _ => none }
def VecTakesWrongFalsely : Prop := vecTakesRow.holds Try.pinned (OpenSpec.ofChange vecTakesWrong)

/-- 'ticketwardlaw.VecRows': WHATEVER THE INPUT: true; the input reads as it did. -/
def vecRowsSpec : ChangeSpec := { name := "vecRows", fn := fun _ => fun
  | [d1, d2, d3, d4] => { results := [.lit (.bool true)], args := [d1, d2, d3, d4] }
  | _ => none }
def vecRowsRow : OpenClaim := { program := "ytgicbjpeagmfcaa", sum := "5a7d6d1fec075d4fd93f9b239d4b03f1e6a68b96ee20b24f8e807427061836d5", func := "ticketward/ticketwardlaw.VecRows", spec := "vecRows", recurses := true, apart := false }
def VecRowsSaid : Prop := vecRowsRow.holds Try.pinned (OpenSpec.ofChange vecRowsSpec)

/-- ITS FALSE NEIGHBOUR: 'it returns false'. Refute it at one input. -/
def vecRowsWrong : ChangeSpec := { name := "vecRows", fn := fun _ => fun
  | [d1, d2, d3, d4] => { results := [.lit (.bool false)], args := [d1, d2, d3, d4] }
  | _ => none }
def VecRowsWrongFalsely : Prop := vecRowsRow.holds Try.pinned (OpenSpec.ofChange vecRowsWrong)

/-- 'ticketwardkeep.VecBack': WHATEVER THE INPUT: true; the input reads as it did. -/
def vecBackSpec : ChangeSpec := { name := "vecBack", fn := fun _ => fun
  | [d1, d2, d3] => { results := [.lit (.bool true)], args := [d1, d2, d3] }
  | _ => none }
def vecBackRow : OpenClaim := { program := "ytgicbjpeagmfcaa", sum := "5a7d6d1fec075d4fd93f9b239d4b03f1e6a68b96ee20b24f8e807427061836d5", func := "ticketward/ticketwardkeep.VecBack", spec := "vecBack", apart := false }
def VecBackSaid : Prop := vecBackRow.holds Try.pinned (OpenSpec.ofChange vecBackSpec)

/-- ITS FALSE NEIGHBOUR: 'it returns false'. Refute it at one input. -/
def vecBackWrong : ChangeSpec := { name := "vecBack", fn := fun _ => fun
  | [d1, d2, d3] => { results := [.lit (.bool false)], args := [d1, d2, d3] }
  | _ => none }
def VecBackWrongFalsely : Prop := vecBackRow.holds Try.pinned (OpenSpec.ofChange vecBackWrong)

/-- 'ticketwardkeep.VecThere': WHATEVER THE INPUT: true; the input reads as it did. -/
def vecThereSpec : ChangeSpec := { name := "vecThere", fn := fun _ => fun
  | [d1, d2, d3] => { results := [.lit (.bool true)], args := [d1, d2, d3] }
  | _ => none }
def vecThereRow : OpenClaim := { program := "ytgicbjpeagmfcaa", sum := "5a7d6d1fec075d4fd93f9b239d4b03f1e6a68b96ee20b24f8e807427061836d5", func := "ticketward/ticketwardkeep.VecThere", spec := "vecThere", apart := false }
def VecThereSaid : Prop := vecThereRow.holds Try.pinned (OpenSpec.ofChange vecThereSpec)

/-- ITS FALSE NEIGHBOUR: 'it returns false'. Refute it at one input. -/
def vecThereWrong : ChangeSpec := { name := "vecThere", fn := fun _ => fun
  | [d1, d2, d3] => { results := [.lit (.bool false)], args := [d1, d2, d3] }
  | _ => none }
def VecThereWrongFalsely : Prop := vecThereRow.holds Try.pinned (OpenSpec.ofChange vecThereWrong)

/-- 'ticketwardkeep.VecNests': WHATEVER THE INPUT: true; the input reads as it did. -/
def vecNestsSpec : ChangeSpec := { name := "vecNests", fn := fun _ => fun
  | [d1, d2, d3, d4] => { results := [.lit (.bool true)], args := [d1, d2, d3, d4] }
  | _ => none }
def vecNestsRow : OpenClaim := { program := "ytgicbjpeagmfcaa", sum := "5a7d6d1fec075d4fd93f9b239d4b03f1e6a68b96ee20b24f8e807427061836d5", func := "ticketward/ticketwardkeep.VecNests", spec := "vecNests", apart := false }
def VecNestsSaid : Prop := vecNestsRow.holds Try.pinned (OpenSpec.ofChange vecNestsSpec)

/-- ITS FALSE NEIGHBOUR: 'it returns false'. Refute it at one input. -/
def vecNestsWrong : ChangeSpec := { name := "vecNests", fn := fun _ => fun
  | [d1, d2, d3, d4] => { results := [.lit (.bool false)], args := [d1, d2, d3, d4] }
  | _ => none }
def VecNestsWrongFalsely : Prop := vecNestsRow.holds Try.pinned (OpenSpec.ofChange vecNestsWrong)

/-- 'ticketwardkeep.VecShort': WHATEVER THE INPUT: true; the input reads as it did. -/
def vecShortSpec : ChangeSpec := { name := "vecShort", fn := fun _ => fun
  | [d1, d2, d3] => { results := [.lit (.bool true)], args := [d1, d2, d3] }
  | _ => none }
def vecShortRow : OpenClaim := { program := "ytgicbjpeagmfcaa", sum := "5a7d6d1fec075d4fd93f9b239d4b03f1e6a68b96ee20b24f8e807427061836d5", func := "ticketward/ticketwardkeep.VecShort", spec := "vecShort", apart := false }
def VecShortSaid : Prop := vecShortRow.holds Try.pinned (OpenSpec.ofChange vecShortSpec)

/-- ITS FALSE NEIGHBOUR: 'it returns false'. Refute it at one input. -/
def vecShortWrong : ChangeSpec := { name := "vecShort", fn := fun _ => fun
  | [d1, d2, d3] => { results := [.lit (.bool false)], args := [d1, d2, d3] }
  | _ => none }
def VecShortWrongFalsely : Prop := vecShortRow.holds Try.pinned (OpenSpec.ofChange vecShortWrong)

/-- 'ticketwardkeep.VecWider': WHATEVER THE INPUT: true; the input reads as it did. -/
def vecWiderSpec : ChangeSpec := { name := "vecWider", fn := fun _ => fun
  | [d1, d2] => { results := [.lit (.bool true)], args := [d1, d2] }
  | _ => none }
def vecWiderRow : OpenClaim := { program := "ytgicbjpeagmfcaa", sum := "5a7d6d1fec075d4fd93f9b239d4b03f1e6a68b96ee20b24f8e807427061836d5", func := "ticketward/ticketwardkeep.VecWider", spec := "vecWider", apart := false }
def VecWiderSaid : Prop := vecWiderRow.holds Try.pinned (OpenSpec.ofChange vecWiderSpec)

/-- ITS FALSE NEIGHBOUR: 'it returns false'. Refute it at one input. -/
def vecWiderWrong : ChangeSpec := { name := "vecWider", fn := fun _ => fun
  | [d1, d2] => { results := [.lit (.bool false)], args := [d1, d2] }
  | _ => none }
def VecWiderWrongFalsely : Prop := vecWiderRow.holds Try.pinned (OpenSpec.ofChange vecWiderWrong)

/- THE SECOND FORM. 'bulk': how many values and letters a reading holds, each counted each time it is reached (what is shared counts as often as it is met; a slice's spare places count too). A statement '..UptoSaid' is the law's where the arguments, and the package variables that the reading takes, are together of bulk at most 1048576: NARROWER than '..Said'. Prove '..Said' where nothing that the law and all that it calls make is longer than what came in: it says more and counts as full. Else prove '..UptoSaid'. A law counts once. -/
mutual
def uptoBulk {H : Type} : DataW H → Nat
  | .lit (.string bytes) => bytes.length + 1
  | .lit _ => 1
  | .nil => 1
  | .ptr d => uptoBulk d + 1
  | .slice elems spare => uptoBulkAll elems + uptoBulkAll spare + 1
  | .agg parts => uptoBulkAll parts + 1
  | .iface _ d => uptoBulk d + 1
  | .map entries => uptoBulkEntries entries + 1
  | .held _ => 1
def uptoBulkAll {H : Type} : List (DataW H) → Nat
  | [] => 0
  | d :: r => uptoBulk d + uptoBulkAll r
def uptoBulkEntries {H : Type} : List (Lit × DataW H) → Nat
  | [] => 0
  | x :: r => uptoBulkEntry x + uptoBulkEntries r
def uptoBulkEntry {H : Type} : Lit × DataW H → Nat
  | (.string bytes, d) => bytes.length + uptoBulk d + 1
  | (_, d) => uptoBulk d + 1
 end
def uptoSmall : (H : Type) → List (DataW H) → Bool := fun _ ds => decide (uptoBulkAll ds ≤ 1048576)
def OpenSpec.upto (s : _root_.Go.ChangeSpec) : _root_.Go.OpenSpec := { _root_.Go.OpenSpec.ofChange s with cond := some uptoSmall }

/-- 'ticketwardlaw.VecTakes', WHERE WHAT IT READS IS OF BULK AT MOST 1048576: true; the input reads as it did. -/
def vecTakesUptoRow : OpenClaim := { program := "ytgicbjpeagmfcaa", sum := "5a7d6d1fec075d4fd93f9b239d4b03f1e6a68b96ee20b24f8e807427061836d5", func := "ticketward/ticketwardlaw.VecTakes", spec := "vecTakes", apart := false, narrowed := true }
def VecTakesUptoSaid : Prop := vecTakesUptoRow.holds Try.pinned (OpenSpec.upto vecTakesSpec)

/-- 'ticketwardlaw.VecRows', WHERE WHAT IT READS IS OF BULK AT MOST 1048576: true; the input reads as it did. -/
def vecRowsUptoRow : OpenClaim := { program := "ytgicbjpeagmfcaa", sum := "5a7d6d1fec075d4fd93f9b239d4b03f1e6a68b96ee20b24f8e807427061836d5", func := "ticketward/ticketwardlaw.VecRows", spec := "vecRows", recurses := true, apart := false, narrowed := true }
def VecRowsUptoSaid : Prop := vecRowsUptoRow.holds Try.pinned (OpenSpec.upto vecRowsSpec)

/-- 'ticketwardkeep.VecBack', WHERE WHAT IT READS IS OF BULK AT MOST 1048576: true; the input reads as it did. -/
def vecBackUptoRow : OpenClaim := { program := "ytgicbjpeagmfcaa", sum := "5a7d6d1fec075d4fd93f9b239d4b03f1e6a68b96ee20b24f8e807427061836d5", func := "ticketward/ticketwardkeep.VecBack", spec := "vecBack", apart := false, narrowed := true }
def VecBackUptoSaid : Prop := vecBackUptoRow.holds Try.pinned (OpenSpec.upto vecBackSpec)

/-- 'ticketwardkeep.VecThere', WHERE WHAT IT READS IS OF BULK AT MOST 1048576: true; the input reads as it did. -/
def vecThereUptoRow : OpenClaim := { program := "ytgicbjpeagmfcaa", sum := "5a7d6d1fec075d4fd93f9b239d4b03f1e6a68b96ee20b24f8e807427061836d5", func := "ticketward/ticketwardkeep.VecThere", spec := "vecThere", apart := false, narrowed := true }
def VecThereUptoSaid : Prop := vecThereUptoRow.holds Try.pinned (OpenSpec.upto vecThereSpec)

/-- 'ticketwardkeep.VecNests', WHERE WHAT IT READS IS OF BULK AT MOST 1048576: true; the input reads as it did. -/
def vecNestsUptoRow : OpenClaim := { program := "ytgicbjpeagmfcaa", sum := "5a7d6d1fec075d4fd93f9b239d4b03f1e6a68b96ee20b24f8e807427061836d5", func := "ticketward/ticketwardkeep.VecNests", spec := "vecNests", apart := false, narrowed := true }
def VecNestsUptoSaid : Prop := vecNestsUptoRow.holds Try.pinned (OpenSpec.upto vecNestsSpec)

/-- 'ticketwardkeep.VecShort', WHERE WHAT IT READS IS OF BULK AT MOST 1048576: true; the input reads as it did. -/
def vecShortUptoRow : OpenClaim := { program := "ytgicbjpeagmfcaa", sum := "5a7d6d1fec075d4fd93f9b239d4b03f1e6a68b96ee20b24f8e807427061836d5", func := "ticketward/ticketwardkeep.VecShort", spec := "vecShort", apart := false, narrowed := true }
def VecShortUptoSaid : Prop := vecShortUptoRow.holds Try.pinned (OpenSpec.upto vecShortSpec)

/-- 'ticketwardkeep.VecWider', WHERE WHAT IT READS IS OF BULK AT MOST 1048576: true; the input reads as it did. -/
def vecWiderUptoRow : OpenClaim := { program := "ytgicbjpeagmfcaa", sum := "5a7d6d1fec075d4fd93f9b239d4b03f1e6a68b96ee20b24f8e807427061836d5", func := "ticketward/ticketwardkeep.VecWider", spec := "vecWider", apart := false, narrowed := true }
def VecWiderUptoSaid : Prop := vecWiderUptoRow.holds Try.pinned (OpenSpec.upto vecWiderSpec)

end Rows
end Go.Proofs.Ytgicbjpeagmfcaa
