/-
  No cell of these rows narrows 'for every input' (looked for: loops, veiled, ifaces, maps, wideKeys, modest, calm, conditions, laid).
  DERIVED. THE GIVEN ROWS OF THIS SEAT. 5 by the template 'for every input the law returns true; each argument reads behind the call as it read before'; 0 by the template 'total and deterministic' (their statements: YthofghfbnlieeaaTotals.lean).
  GIVEN WITH THE SEED: the statements are not yours to turn. If you find one false, say at which input.
  Laid BY PROGRAM, IN A SANDBOX (cutbox-rows.mjs): the forced cells as the released guide's own fill.sh prints them over the translation aa1b43b12ce05d5a… (all of the seat's roots in one cut). By AI agents, Wed Nov 11 2026. No macro, syntax, notation, axiom, sorry.
-/
import Derived.Test.YthofghfbnlieeaaChecked
import GoSem.Claim
import GoSem.ClaimJoined
import GoSem.ClaimMapViews
import Derived.JoinedTies
import Derived.KernelRfl
namespace Go.Proofs.Ythofghfbnlieeaa
/- THE CELL 'sum', in the pinned program and in every row, IS THE sha256 OF THE DUMP (.gsa) THAT YthofghfbnlieeaaProg.lean LOADS. Nothing in Lean hashes anything: it is a label: what it is worth is what the hold of that sum in a sandbox is worth. -/
noncomputable def Try.pinned : Pinned := { name := "ythofghfbnlieeaa", sum := "aa1b43b12ce05d5a10bba889f47e2586a95309ed82b82ce76e91275abb5328f6", checked := Try.checked }
namespace Rows
def none {H : Type} : Left H := { results := [], args := [] }

/-- 'ticketwardlaw.StreamMixes': WHATEVER THE INPUT: true; the input reads as it did. -/
def streamMixesSpec : ChangeSpec := { name := "streamMixes", fn := fun _ => fun
  | [d1, d2, d3, d4] => { results := [.lit (.bool true)], args := [d1, d2, d3, d4] }
  | _ => none }
def streamMixesRow : OpenClaim := { program := "ythofghfbnlieeaa", sum := "aa1b43b12ce05d5a10bba889f47e2586a95309ed82b82ce76e91275abb5328f6", func := "ticketward/ticketwardlaw.StreamMixes", spec := "streamMixes", unfollowed := true, recurses := true, apart := false }
def StreamMixesSaid : Prop := streamMixesRow.holds Try.pinned (OpenSpec.ofChange streamMixesSpec)

/-- ITS FALSE NEIGHBOUR: 'it returns false'. Refute it at one input. -/
def streamMixesWrong : ChangeSpec := { name := "streamMixes", fn := fun _ => fun
  | [d1, d2, d3, d4] => { results := [.lit (.bool false)], args := [d1, d2, d3, d4] }
  | _ => none }
def StreamMixesWrongFalsely : Prop := streamMixesRow.holds Try.pinned (OpenSpec.ofChange streamMixesWrong)

/-- 'ticketwardkeep.StreamBack': WHATEVER THE INPUT: true; the input reads as it did. -/
def streamBackSpec : ChangeSpec := { name := "streamBack", fn := fun _ => fun
  | [d1, d2, d3, d4] => { results := [.lit (.bool true)], args := [d1, d2, d3, d4] }
  | _ => none }
def streamBackRow : OpenClaim := { program := "ythofghfbnlieeaa", sum := "aa1b43b12ce05d5a10bba889f47e2586a95309ed82b82ce76e91275abb5328f6", func := "ticketward/ticketwardkeep.StreamBack", spec := "streamBack", apart := false }
def StreamBackSaid : Prop := streamBackRow.holds Try.pinned (OpenSpec.ofChange streamBackSpec)

/-- ITS FALSE NEIGHBOUR: 'it returns false'. Refute it at one input. -/
def streamBackWrong : ChangeSpec := { name := "streamBack", fn := fun _ => fun
  | [d1, d2, d3, d4] => { results := [.lit (.bool false)], args := [d1, d2, d3, d4] }
  | _ => none }
def StreamBackWrongFalsely : Prop := streamBackRow.holds Try.pinned (OpenSpec.ofChange streamBackWrong)

/-- 'ticketwardkeep.StreamSeek': WHATEVER THE INPUT: true; the input reads as it did. -/
def streamSeekSpec : ChangeSpec := { name := "streamSeek", fn := fun _ => fun
  | [d1, d2, d3, d4, d5] => { results := [.lit (.bool true)], args := [d1, d2, d3, d4, d5] }
  | _ => none }
def streamSeekRow : OpenClaim := { program := "ythofghfbnlieeaa", sum := "aa1b43b12ce05d5a10bba889f47e2586a95309ed82b82ce76e91275abb5328f6", func := "ticketward/ticketwardkeep.StreamSeek", spec := "streamSeek", apart := false }
def StreamSeekSaid : Prop := streamSeekRow.holds Try.pinned (OpenSpec.ofChange streamSeekSpec)

/-- ITS FALSE NEIGHBOUR: 'it returns false'. Refute it at one input. -/
def streamSeekWrong : ChangeSpec := { name := "streamSeek", fn := fun _ => fun
  | [d1, d2, d3, d4, d5] => { results := [.lit (.bool false)], args := [d1, d2, d3, d4, d5] }
  | _ => none }
def StreamSeekWrongFalsely : Prop := streamSeekRow.holds Try.pinned (OpenSpec.ofChange streamSeekWrong)

/-- 'ticketwardkeep.StreamBits': WHATEVER THE INPUT: true; the input reads as it did. -/
def streamBitsSpec : ChangeSpec := { name := "streamBits", fn := fun _ => fun
  | [d1, d2, d3, d4, d5] => { results := [.lit (.bool true)], args := [d1, d2, d3, d4, d5] }
  | _ => none }
def streamBitsRow : OpenClaim := { program := "ythofghfbnlieeaa", sum := "aa1b43b12ce05d5a10bba889f47e2586a95309ed82b82ce76e91275abb5328f6", func := "ticketward/ticketwardkeep.StreamBits", spec := "streamBits", apart := false }
def StreamBitsSaid : Prop := streamBitsRow.holds Try.pinned (OpenSpec.ofChange streamBitsSpec)

/-- ITS FALSE NEIGHBOUR: 'it returns false'. Refute it at one input. -/
def streamBitsWrong : ChangeSpec := { name := "streamBits", fn := fun _ => fun
  | [d1, d2, d3, d4, d5] => { results := [.lit (.bool false)], args := [d1, d2, d3, d4, d5] }
  | _ => none }
def StreamBitsWrongFalsely : Prop := streamBitsRow.holds Try.pinned (OpenSpec.ofChange streamBitsWrong)

/-- 'ticketwardkeep.StreamBlocks': WHATEVER THE INPUT: true; the input reads as it did. -/
def streamBlocksSpec : ChangeSpec := { name := "streamBlocks", fn := fun _ => fun
  | [d1, d2, d3, d4] => { results := [.lit (.bool true)], args := [d1, d2, d3, d4] }
  | _ => none }
def streamBlocksRow : OpenClaim := { program := "ythofghfbnlieeaa", sum := "aa1b43b12ce05d5a10bba889f47e2586a95309ed82b82ce76e91275abb5328f6", func := "ticketward/ticketwardkeep.StreamBlocks", spec := "streamBlocks", apart := false }
def StreamBlocksSaid : Prop := streamBlocksRow.holds Try.pinned (OpenSpec.ofChange streamBlocksSpec)

/-- ITS FALSE NEIGHBOUR: 'it returns false'. Refute it at one input. -/
def streamBlocksWrong : ChangeSpec := { name := "streamBlocks", fn := fun _ => fun
  | [d1, d2, d3, d4] => { results := [.lit (.bool false)], args := [d1, d2, d3, d4] }
  | _ => none }
def StreamBlocksWrongFalsely : Prop := streamBlocksRow.holds Try.pinned (OpenSpec.ofChange streamBlocksWrong)

/- THE SECOND FORM. 'bulk': how many values and letters a reading holds, each counted each time it is reached (what is shared counts as often as it is met; a slice's spare places count too). A statement '..UptoSaid' is the law's where the arguments, and the package variables that the reading takes, are together of bulk at most 1048576: NARROWER than '..Said'. Prove '..Said' where nothing that the law and all that it calls make is longer than what came in: it says more and counts as full. Else prove '..UptoSaid'. A law counts once. -/
mutual
def uptoBulk {H : Type} : DataW H → Nat
  | .lit (.string bytes) => bytes.length + 1
  | .lit _ => 1
  | .nil => 1
  | .ptr d => uptoBulk d + 1
  | .slice elems spare => uptoBulkAll elems + uptoBulkAll spare + 1
  | .agg parts => uptoBulkAll parts + 1
  | .iface _ d => uptoBulk d + 1
  | .map entries => uptoBulkEntries entries + 1
  | .held _ => 1
def uptoBulkAll {H : Type} : List (DataW H) → Nat
  | [] => 0
  | d :: r => uptoBulk d + uptoBulkAll r
def uptoBulkEntries {H : Type} : List (Lit × DataW H) → Nat
  | [] => 0
  | x :: r => uptoBulkEntry x + uptoBulkEntries r
def uptoBulkEntry {H : Type} : Lit × DataW H → Nat
  | (.string bytes, d) => bytes.length + uptoBulk d + 1
  | (_, d) => uptoBulk d + 1
 end
def uptoSmall : (H : Type) → List (DataW H) → Bool := fun _ ds => decide (uptoBulkAll ds ≤ 1048576)
def OpenSpec.upto (s : _root_.Go.ChangeSpec) : _root_.Go.OpenSpec := { _root_.Go.OpenSpec.ofChange s with cond := some uptoSmall }

/-- 'ticketwardlaw.StreamMixes', WHERE WHAT IT READS IS OF BULK AT MOST 1048576: true; the input reads as it did. -/
def streamMixesUptoRow : OpenClaim := { program := "ythofghfbnlieeaa", sum := "aa1b43b12ce05d5a10bba889f47e2586a95309ed82b82ce76e91275abb5328f6", func := "ticketward/ticketwardlaw.StreamMixes", spec := "streamMixes", unfollowed := true, recurses := true, apart := false, narrowed := true }
def StreamMixesUptoSaid : Prop := streamMixesUptoRow.holds Try.pinned (OpenSpec.upto streamMixesSpec)

/-- 'ticketwardkeep.StreamBack', WHERE WHAT IT READS IS OF BULK AT MOST 1048576: true; the input reads as it did. -/
def streamBackUptoRow : OpenClaim := { program := "ythofghfbnlieeaa", sum := "aa1b43b12ce05d5a10bba889f47e2586a95309ed82b82ce76e91275abb5328f6", func := "ticketward/ticketwardkeep.StreamBack", spec := "streamBack", apart := false, narrowed := true }
def StreamBackUptoSaid : Prop := streamBackUptoRow.holds Try.pinned (OpenSpec.upto streamBackSpec)

/-- 'ticketwardkeep.StreamSeek', WHERE WHAT IT READS IS OF BULK AT MOST 1048576: true; the input reads as it did. -/
def streamSeekUptoRow : OpenClaim := { program := "ythofghfbnlieeaa", sum := "aa1b43b12ce05d5a10bba889f47e2586a95309ed82b82ce76e91275abb5328f6", func := "ticketward/ticketwardkeep.StreamSeek", spec := "streamSeek", apart := false, narrowed := true }
def StreamSeekUptoSaid : Prop := streamSeekUptoRow.holds Try.pinned (OpenSpec.upto streamSeekSpec)

/-- 'ticketwardkeep.StreamBits', WHERE WHAT IT READS IS OF BULK AT MOST 1048576: true; the input reads as it did. -/
def streamBitsUptoRow : OpenClaim := { program := "ythofghfbnlieeaa", sum := "aa1b43b12ce05d5a10bba889f47e2586a95309ed82b82ce76e91275abb5328f6", func := "ticketward/ticketwardkeep.StreamBits", spec := "streamBits", apart := false, narrowed := true }
def StreamBitsUptoSaid : Prop := streamBitsUptoRow.holds Try.pinned (OpenSpec.upto streamBitsSpec)

/-- 'ticketwardkeep.StreamBlocks', WHERE WHAT IT READS IS OF BULK AT MOST 1048576: true; the input reads as it did. -/
def streamBlocksUptoRow : OpenClaim := { program := "ythofghfbnlieeaa", sum := "aa1b43b12ce05d5a10bba889f47e2586a95309ed82b82ce76e91275abb5328f6", func := "ticketward/ticketwardkeep.StreamBlocks", spec := "streamBlocks", apart := false, narrowed := true }
def StreamBlocksUptoSaid : Prop := streamBlocksUptoRow.holds Try.pinned (OpenSpec.upto streamBlocksSpec)

end Rows
end Go.Proofs.Ythofghfbnlieeaa
