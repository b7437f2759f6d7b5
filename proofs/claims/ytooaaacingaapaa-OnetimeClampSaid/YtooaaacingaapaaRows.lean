/-
  No cell of these rows narrows 'for every input' (looked for: loops, veiled, ifaces, maps, wideKeys, modest, calm, conditions, laid).
  DERIVED. THE GIVEN ROWS OF THIS SEAT. 4 by the template 'for every input the law returns true; each argument reads behind the call as it read before'; 0 by the template 'total and deterministic' (their statements: YtooaaacingaapaaTotals.lean).
  GIVEN WITH THE SEED: the statements are not yours to turn. If you find one false, say at which input.
  Laid BY PROGRAM, IN A SANDBOX (cutbox-rows.mjs): the forced cells as the released guide's own fill.sh prints them over the translation f07109797f1a6410… (all of the seat's roots in one cut). By AI agents, Wed Nov 11 2026. No macro, syntax, notation, axiom, sorry.
-/
import Derived.Test.YtooaaacingaapaaChecked
import GoSem.Claim
import GoSem.ClaimJoined
import GoSem.ClaimMapViews
import Derived.JoinedTies
import Derived.KernelRfl
namespace Go.Proofs.Ytooaaacingaapaa
/- THE CELL 'sum', in the pinned program and in every row, IS THE sha256 OF THE DUMP (.gsa) THAT YtooaaacingaapaaProg.lean LOADS. Nothing in Lean hashes anything: it is a label: what it is worth is what the hold of that sum in a sandbox is worth. -/
noncomputable def Try.pinned : Pinned := { name := "ytooaaacingaapaa", sum := "f07109797f1a64104a23fa54c06d2758842f10de28fd3995de1744c7449f7920", checked := Try.checked }
namespace Rows
def none {H : Type} : Left H := { results := [], args := [] }

/-- 'ticketwardlaw.OnetimeSums': WHATEVER THE INPUT: true; the input reads as it did. -/
def onetimeSumsSpec : ChangeSpec := { name := "onetimeSums", fn := fun _ => fun
  | [d1, d2, d3] => { results := [.lit (.bool true)], args := [d1, d2, d3] }
  | _ => none }
def onetimeSumsRow : OpenClaim := { program := "ytooaaacingaapaa", sum := "f07109797f1a64104a23fa54c06d2758842f10de28fd3995de1744c7449f7920", func := "ticketward/ticketwardlaw.OnetimeSums", spec := "onetimeSums", inPlace := ["math/bits.Add64"], unfollowed := true, recurses := true, apart := false }
def OnetimeSumsSaid : Prop := onetimeSumsRow.holds Try.pinned (OpenSpec.ofChange onetimeSumsSpec)

/-- ITS FALSE NEIGHBOUR: 'it returns false'. Refute it at one input. -/
def onetimeSumsWrong : ChangeSpec := { name := "onetimeSums", fn := fun _ => fun
  | [d1, d2, d3] => { results := [.lit (.bool false)], args := [d1, d2, d3] }
  | _ => none }
def OnetimeSumsWrongFalsely : Prop := onetimeSumsRow.holds Try.pinned (OpenSpec.ofChange onetimeSumsWrong)

/-- 'ticketwardkeep.OnetimeShift': WHATEVER THE INPUT: true; the input reads as it did. -/
def onetimeShiftSpec : ChangeSpec := { name := "onetimeShift", fn := fun _ => fun
  | [d1, d2] => { results := [.lit (.bool true)], args := [d1, d2] }
  | _ => none }
def onetimeShiftRow : OpenClaim := { program := "ytooaaacingaapaa", sum := "f07109797f1a64104a23fa54c06d2758842f10de28fd3995de1744c7449f7920", func := "ticketward/ticketwardkeep.OnetimeShift", spec := "onetimeShift", inPlace := ["math/bits.Add64"], unfollowed := true, recurses := true, apart := false }
def OnetimeShiftSaid : Prop := onetimeShiftRow.holds Try.pinned (OpenSpec.ofChange onetimeShiftSpec)

/-- ITS FALSE NEIGHBOUR: 'it returns false'. Refute it at one input. -/
def onetimeShiftWrong : ChangeSpec := { name := "onetimeShift", fn := fun _ => fun
  | [d1, d2] => { results := [.lit (.bool false)], args := [d1, d2] }
  | _ => none }
def OnetimeShiftWrongFalsely : Prop := onetimeShiftRow.holds Try.pinned (OpenSpec.ofChange onetimeShiftWrong)

/-- 'ticketwardkeep.OnetimeNone': WHATEVER THE INPUT: true; the input reads as it did. -/
def onetimeNoneSpec : ChangeSpec := { name := "onetimeNone", fn := fun _ => fun
  | [d1, d2] => { results := [.lit (.bool true)], args := [d1, d2] }
  | _ => none }
def onetimeNoneRow : OpenClaim := { program := "ytooaaacingaapaa", sum := "f07109797f1a64104a23fa54c06d2758842f10de28fd3995de1744c7449f7920", func := "ticketward/ticketwardkeep.OnetimeNone", spec := "onetimeNone", inPlace := ["math/bits.Add64"], unfollowed := true, recurses := true, apart := false }
def OnetimeNoneSaid : Prop := onetimeNoneRow.holds Try.pinned (OpenSpec.ofChange onetimeNoneSpec)

/-- ITS FALSE NEIGHBOUR: 'it returns false'. Refute it at one input. -/
def onetimeNoneWrong : ChangeSpec := { name := "onetimeNone", fn := fun _ => fun
  | [d1, d2] => { results := [.lit (.bool false)], args := [d1, d2] }
  | _ => none }
def OnetimeNoneWrongFalsely : Prop := onetimeNoneRow.holds Try.pinned (OpenSpec.ofChange onetimeNoneWrong)

/-- 'ticketwardkeep.OnetimeClamp': WHATEVER THE INPUT: true; the input reads as it did. -/
def onetimeClampSpec : ChangeSpec := { name := "onetimeClamp", fn := fun _ => fun
  | [d1, d2, d3, d4] => { results := [.lit (.bool true)], args := [d1, d2, d3, d4] }
  | _ => none }
def onetimeClampRow : OpenClaim := { program := "ytooaaacingaapaa", sum := "f07109797f1a64104a23fa54c06d2758842f10de28fd3995de1744c7449f7920", func := "ticketward/ticketwardkeep.OnetimeClamp", spec := "onetimeClamp", inPlace := ["math/bits.Add64"], unfollowed := true, recurses := true, apart := false }
def OnetimeClampSaid : Prop := onetimeClampRow.holds Try.pinned (OpenSpec.ofChange onetimeClampSpec)

/-- ITS FALSE NEIGHBOUR: 'it returns false'. Refute it at one input. -/
def onetimeClampWrong : ChangeSpec := { name := "onetimeClamp", fn := fun _ => fun
  | [d1, d2, d3, d4] => { results := [.lit (.bool false)], args := [d1, d2, d3, d4] }
  | _ => none }
def OnetimeClampWrongFalsely : Prop := onetimeClampRow.holds Try.pinned (OpenSpec.ofChange onetimeClampWrong)

/- THE SECOND FORM. 'bulk': how many values and letters a reading holds, each counted each time it is reached (what is shared counts as often as it is met; a slice's spare places count too). A statement '..UptoSaid' is the law's where the arguments, and the package variables that the reading takes, are together of bulk at most 1048576: NARROWER than '..Said'. Prove '..Said' where nothing that the law and all that it calls make is longer than what came in: it says more and counts as full. Else prove '..UptoSaid'. A law counts once. -/
mutual
def uptoBulk {H : Type} : DataW H → Nat
  | .lit (.string bytes) => bytes.length + 1
  | .lit _ => 1
  | .nil => 1
  | .ptr d => uptoBulk d + 1
  | .slice elems spare => uptoBulkAll elems + uptoBulkAll spare + 1
  | .agg parts => uptoBulkAll parts + 1
  | .iface _ d => uptoBulk d + 1
  | .map entries => uptoBulkEntries entries + 1
  | .held _ => 1
def uptoBulkAll {H : Type} : List (DataW H) → Nat
  | [] => 0
  | d :: r => uptoBulk d + uptoBulkAll r
def uptoBulkEntries {H : Type} : List (Lit × DataW H) → Nat
  | [] => 0
  | x :: r => uptoBulkEntry x + uptoBulkEntries r
def uptoBulkEntry {H : Type} : Lit × DataW H → Nat
  | (.string bytes, d) => bytes.length + uptoBulk d + 1
  | (_, d) => uptoBulk d + 1
 end
def uptoSmall : (H : Type) → List (DataW H) → Bool := fun _ ds => decide (uptoBulkAll ds ≤ 1048576)
def OpenSpec.upto (s : _root_.Go.ChangeSpec) : _root_.Go.OpenSpec := { _root_.Go.OpenSpec.ofChange s with cond := some uptoSmall }

/-- 'ticketwardlaw.OnetimeSums', WHERE WHAT IT READS IS OF BULK AT MOST 1048576: true; the input reads as it did. -/
def onetimeSumsUptoRow : OpenClaim := { program := "ytooaaacingaapaa", sum := "f07109797f1a64104a23fa54c06d2758842f10de28fd3995de1744c7449f7920", func := "ticketward/ticketwardlaw.OnetimeSums", spec := "onetimeSums", inPlace := ["math/bits.Add64"], unfollowed := true, recurses := true, apart := false, narrowed := true }
def OnetimeSumsUptoSaid : Prop := onetimeSumsUptoRow.holds Try.pinned (OpenSpec.upto onetimeSumsSpec)

/-- 'ticketwardkeep.OnetimeShift', WHERE WHAT IT READS IS OF BULK AT MOST 1048576: true; the input reads as it did. -/
def onetimeShiftUptoRow : OpenClaim := { program := "ytooaaacingaapaa", sum := "f07109797f1a64104a23fa54c06d2758842f10de28fd3995de1744c7449f7920", func := "ticketward/ticketwardkeep.OnetimeShift", spec := "onetimeShift", inPlace := ["math/bits.Add64"], unfollowed := true, recurses := true, apart := false, narrowed := true }
def OnetimeShiftUptoSaid : Prop := onetimeShiftUptoRow.holds Try.pinned (OpenSpec.upto onetimeShiftSpec)

/-- 'ticketwardkeep.OnetimeNone', WHERE WHAT IT READS IS OF BULK AT MOST 1048576: true; the input reads as it did. -/
def onetimeNoneUptoRow : OpenClaim := { program := "ytooaaacingaapaa", sum := "f07109797f1a64104a23fa54c06d2758842f10de28fd3995de1744c7449f7920", func := "ticketward/ticketwardkeep.OnetimeNone", spec := "onetimeNone", inPlace := ["math/bits.Add64"], unfollowed := true, recurses := true, apart := false, narrowed := true }
def OnetimeNoneUptoSaid : Prop := onetimeNoneUptoRow.holds Try.pinned (OpenSpec.upto onetimeNoneSpec)

/-- 'ticketwardkeep.OnetimeClamp', WHERE WHAT IT READS IS OF BULK AT MOST 1048576: true; the input reads as it did. -/
def onetimeClampUptoRow : OpenClaim := { program := "ytooaaacingaapaa", sum := "f07109797f1a64104a23fa54c06d2758842f10de28fd3995de1744c7449f7920", func := "ticketward/ticketwardkeep.OnetimeClamp", spec := "onetimeClamp", inPlace := ["math/bits.Add64"], unfollowed := true, recurses := true, apart := false, narrowed := true }
def OnetimeClampUptoSaid : Prop := onetimeClampUptoRow.holds Try.pinned (OpenSpec.upto onetimeClampSpec)

end Rows
end Go.Proofs.Ytooaaacingaapaa
