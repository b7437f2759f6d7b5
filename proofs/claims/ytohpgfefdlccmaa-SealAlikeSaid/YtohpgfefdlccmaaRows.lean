/-
  No cell of these rows narrows 'for every input' (looked for: loops, veiled, ifaces, maps, wideKeys, modest, calm, conditions, laid).
  DERIVED. THE GIVEN ROWS OF THIS SEAT. 4 by the template 'for every input the law returns true; each argument reads behind the call as it read before'; 0 by the template 'total and deterministic' (their statements: YtohpgfefdlccmaaTotals.lean).
  GIVEN WITH THE SEED: the statements are not yours to turn. If you find one false, say at which input.
  Laid BY PROGRAM, IN A SANDBOX (cutbox-rows.mjs): the forced cells as the released guide's own fill.sh prints them over the translation 0dbd0ed125159cf4… (all of the seat's roots in one cut). By AI agents, Wed Nov 11 2026. No macro, syntax, notation, axiom, sorry.
-/
import Derived.Test.YtohpgfefdlccmaaChecked
import GoSem.Claim
import GoSem.ClaimJoined
import GoSem.ClaimMapViews
import Derived.JoinedTies
import Derived.KernelRfl
namespace Go.Proofs.Ytohpgfefdlccmaa
/- THE CELL 'sum', in the pinned program and in every row, IS THE sha256 OF THE DUMP (.gsa) THAT YtohpgfefdlccmaaProg.lean LOADS. Nothing in Lean hashes anything: it is a label: what it is worth is what the hold of that sum in a sandbox is worth. -/
noncomputable def Try.pinned : Pinned := { name := "ytohpgfefdlccmaa", sum := "0dbd0ed125159cf4b82b684f9a58ef83ab62129a3e5047d79661bceec736c4c5", checked := Try.checked }
namespace Rows
def none {H : Type} : Left H := { results := [], args := [] }

/-- 'ticketwardlaw.SealOpens': WHATEVER THE INPUT: true; the input reads as it did. -/
def sealOpensSpec : ChangeSpec := { name := "sealOpens", fn := fun _ => fun
  | [d1, d2, d3, d4] => { results := [.lit (.bool true)], args := [d1, d2, d3, d4] }
  | _ => none }
def sealOpensRow : OpenClaim := { program := "ytohpgfefdlccmaa", sum := "0dbd0ed125159cf4b82b684f9a58ef83ab62129a3e5047d79661bceec736c4c5", func := "ticketward/ticketwardlaw.SealOpens", spec := "sealOpens", inPlace := ["math/bits.Add64"], unfollowed := true, recurses := true, apart := false }
def SealOpensSaid : Prop := sealOpensRow.holds Try.pinned (OpenSpec.ofChange sealOpensSpec)

/-- ITS FALSE NEIGHBOUR: 'it returns false'. Refute it at one input. -/
def sealOpensWrong : ChangeSpec := { name := "sealOpens", fn := fun _ => fun
  | [d1, d2, d3, d4] => { results := [.lit (.bool false)], args := [d1, d2, d3, d4] }
  | _ => none }
def SealOpensWrongFalsely : Prop := sealOpensRow.holds Try.pinned (OpenSpec.ofChange sealOpensWrong)

/-- 'ticketwardkeep.SealBack': WHATEVER THE INPUT: true; the input reads as it did. -/
def sealBackSpec : ChangeSpec := { name := "sealBack", fn := fun _ => fun
  | [d1, d2, d3, d4] => { results := [.lit (.bool true)], args := [d1, d2, d3, d4] }
  | _ => none }
def sealBackRow : OpenClaim := { program := "ytohpgfefdlccmaa", sum := "0dbd0ed125159cf4b82b684f9a58ef83ab62129a3e5047d79661bceec736c4c5", func := "ticketward/ticketwardkeep.SealBack", spec := "sealBack", inPlace := ["math/bits.Add64"], unfollowed := true, recurses := true, apart := false }
def SealBackSaid : Prop := sealBackRow.holds Try.pinned (OpenSpec.ofChange sealBackSpec)

/-- ITS FALSE NEIGHBOUR: 'it returns false'. Refute it at one input. -/
def sealBackWrong : ChangeSpec := { name := "sealBack", fn := fun _ => fun
  | [d1, d2, d3, d4] => { results := [.lit (.bool false)], args := [d1, d2, d3, d4] }
  | _ => none }
def SealBackWrongFalsely : Prop := sealBackRow.holds Try.pinned (OpenSpec.ofChange sealBackWrong)

/-- 'ticketwardkeep.SealTag': WHATEVER THE INPUT: true; the input reads as it did. -/
def sealTagSpec : ChangeSpec := { name := "sealTag", fn := fun _ => fun
  | [d1, d2, d3, d4, d5] => { results := [.lit (.bool true)], args := [d1, d2, d3, d4, d5] }
  | _ => none }
def sealTagRow : OpenClaim := { program := "ytohpgfefdlccmaa", sum := "0dbd0ed125159cf4b82b684f9a58ef83ab62129a3e5047d79661bceec736c4c5", func := "ticketward/ticketwardkeep.SealTag", spec := "sealTag", inPlace := ["math/bits.Add64"], unfollowed := true, recurses := true, apart := false }
def SealTagSaid : Prop := sealTagRow.holds Try.pinned (OpenSpec.ofChange sealTagSpec)

/-- ITS FALSE NEIGHBOUR: 'it returns false'. Refute it at one input. -/
def sealTagWrong : ChangeSpec := { name := "sealTag", fn := fun _ => fun
  | [d1, d2, d3, d4, d5] => { results := [.lit (.bool false)], args := [d1, d2, d3, d4, d5] }
  | _ => none }
def SealTagWrongFalsely : Prop := sealTagRow.holds Try.pinned (OpenSpec.ofChange sealTagWrong)

/-- 'ticketwardkeep.SealAlike': WHATEVER THE INPUT: true; the input reads as it did. -/
def sealAlikeSpec : ChangeSpec := { name := "sealAlike", fn := fun _ => fun
  | [d1, d2, d3, d4, d5] => { results := [.lit (.bool true)], args := [d1, d2, d3, d4, d5] }
  | _ => none }
def sealAlikeRow : OpenClaim := { program := "ytohpgfefdlccmaa", sum := "0dbd0ed125159cf4b82b684f9a58ef83ab62129a3e5047d79661bceec736c4c5", func := "ticketward/ticketwardkeep.SealAlike", spec := "sealAlike", inPlace := ["math/bits.Add64"], unfollowed := true, recurses := true, apart := false }
def SealAlikeSaid : Prop := sealAlikeRow.holds Try.pinned (OpenSpec.ofChange sealAlikeSpec)

/-- ITS FALSE NEIGHBOUR: 'it returns false'. Refute it at one input. -/
def sealAlikeWrong : ChangeSpec := { name := "sealAlike", fn := fun _ => fun
  | [d1, d2, d3, d4, d5] => { results := [.lit (.bool false)], args := [d1, d2, d3, d4, d5] }
  | _ => none }
def SealAlikeWrongFalsely : Prop := sealAlikeRow.holds Try.pinned (OpenSpec.ofChange sealAlikeWrong)

/- THE SECOND FORM. 'bulk': how many values and letters a reading holds, each counted each time it is reached (what is shared counts as often as it is met; a slice's spare places count too). A statement '..UptoSaid' is the law's where the arguments, and the package variables that the reading takes, are together of bulk at most 1048576: NARROWER than '..Said'. Prove '..Said' where nothing that the law and all that it calls make is longer than what came in: it says more and counts as full. Else prove '..UptoSaid'. A law counts once. -/
mutual
def uptoBulk {H : Type} : DataW H → Nat
  | .lit (.string bytes) => bytes.length + 1
  | .lit _ => 1
  | .nil => 1
  | .ptr d => uptoBulk d + 1
  | .slice elems spare => uptoBulkAll elems + uptoBulkAll spare + 1
  | .agg parts => uptoBulkAll parts + 1
  | .iface _ d => uptoBulk d + 1
  | .map entries => uptoBulkEntries entries + 1
  | .held _ => 1
def uptoBulkAll {H : Type} : List (DataW H) → Nat
  | [] => 0
  | d :: r => uptoBulk d + uptoBulkAll r
def uptoBulkEntries {H : Type} : List (Lit × DataW H) → Nat
  | [] => 0
  | x :: r => uptoBulkEntry x + uptoBulkEntries r
def uptoBulkEntry {H : Type} : Lit × DataW H → Nat
  | (.string bytes, d) => bytes.length + uptoBulk d + 1
  | (_, d) => uptoBulk d + 1
 end
def uptoSmall : (H : Type) → List (DataW H) → Bool := fun _ ds => decide (uptoBulkAll ds ≤ 1048576)
def OpenSpec.upto (s : _root_.Go.ChangeSpec) : _root_.Go.OpenSpec := { _root_.Go.OpenSpec.ofChange s with cond := some uptoSmall }

/-- 'ticketwardlaw.SealOpens', WHERE WHAT IT READS IS OF BULK AT MOST 1048576: true; the input reads as it did. -/
def sealOpensUptoRow : OpenClaim := { program := "ytohpgfefdlccmaa", sum := "0dbd0ed125159cf4b82b684f9a58ef83ab62129a3e5047d79661bceec736c4c5", func := "ticketward/ticketwardlaw.SealOpens", spec := "sealOpens", inPlace := ["math/bits.Add64"], unfollowed := true, recurses := true, apart := false, narrowed := true }
def SealOpensUptoSaid : Prop := sealOpensUptoRow.holds Try.pinned (OpenSpec.upto sealOpensSpec)

/-- 'ticketwardkeep.SealBack', WHERE WHAT IT READS IS OF BULK AT MOST 1048576: true; the input reads as it did. -/
def sealBackUptoRow : OpenClaim := { program := "ytohpgfefdlccmaa", sum := "0dbd0ed125159cf4b82b684f9a58ef83ab62129a3e5047d79661bceec736c4c5", func := "ticketward/ticketwardkeep.SealBack", spec := "sealBack", inPlace := ["math/bits.Add64"], unfollowed := true, recurses := true, apart := false, narrowed := true }
def SealBackUptoSaid : Prop := sealBackUptoRow.holds Try.pinned (OpenSpec.upto sealBackSpec)

/-- 'ticketwardkeep.SealTag', WHERE WHAT IT READS IS OF BULK AT MOST 1048576: true; the input reads as it did. -/
def sealTagUptoRow : OpenClaim := { program := "ytohpgfefdlccmaa", sum := "0dbd0ed125159cf4b82b684f9a58ef83ab62129a3e5047d79661bceec736c4c5", func := "ticketward/ticketwardkeep.SealTag", spec := "sealTag", inPlace := ["math/bits.Add64"], unfollowed := true, recurses := true, apart := false, narrowed := true }
def SealTagUptoSaid : Prop := sealTagUptoRow.holds Try.pinned (OpenSpec.upto sealTagSpec)

/-- 'ticketwardkeep.SealAlike', WHERE WHAT IT READS IS OF BULK AT MOST 1048576: true; the input reads as it did. -/
def sealAlikeUptoRow : OpenClaim := { program := "ytohpgfefdlccmaa", sum := "0dbd0ed125159cf4b82b684f9a58ef83ab62129a3e5047d79661bceec736c4c5", func := "ticketward/ticketwardkeep.SealAlike", spec := "sealAlike", inPlace := ["math/bits.Add64"], unfollowed := true, recurses := true, apart := false, narrowed := true }
def SealAlikeUptoSaid : Prop := sealAlikeUptoRow.holds Try.pinned (OpenSpec.upto sealAlikeSpec)

end Rows
end Go.Proofs.Ytohpgfefdlccmaa
