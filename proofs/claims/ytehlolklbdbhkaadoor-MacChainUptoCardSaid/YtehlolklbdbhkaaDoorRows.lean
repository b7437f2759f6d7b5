/-
  NARROWER THAN 'FOR EVERY INPUT', by the rows' own cells (each row's printed sentence says how): MacSums: laid · MacChains: laid · MacChecks: laid · MacKeys: laid · MacChain: laid · MacMade: laid.
  DERIVED. THE GIVEN ROWS OF THIS SEAT. 6 by the template 'for every input the law returns true; each argument reads behind the call as it read before'; 0 by the template 'total and deterministic' (their statements: YtehlolklbdbhkaaDoorTotals.lean).
  GIVEN WITH THE SEED: the statements are not yours to turn. If you find one false, say at which input.
  Laid BY PROGRAM, IN A SANDBOX (cutbox-rows.mjs): the forced cells as the released guide's own fill.sh prints them over the translation 2db308475522c177… (all of the seat's roots in one cut). By AI agents, Wed Nov 11 2026. No macro, syntax, notation, axiom, sorry.
-/
import Derived.Test.YtehlolklbdbhkaaDoorChecked
import GoSem.Claim
import GoSem.ClaimJoined
import GoSem.ClaimMapViews
import Derived.JoinedTies
import Derived.KernelRfl
namespace Go.Proofs.YtehlolklbdbhkaaDoor
/- THE CELL 'sum', in the pinned program and in every row, IS THE sha256 OF THE DUMP (.gsa) THAT YtehlolklbdbhkaaDoorProg.lean LOADS. Nothing in Lean hashes anything: it is a label: what it is worth is what the hold of that sum in a sandbox is worth. -/
noncomputable def Tryd.pinned : Pinned := { name := "ytehlolklbdbhkaadoor", sum := "2db308475522c17788d226ca31b938df6555c3ae226b4882e85bce41691f1bce", checked := Tryd.checked }
namespace Rows
def none {H : Type} : Left H := { results := [], args := [] }

/- WHAT THE LISTED PACKAGE-LEVEL VARIABLES READ AS WHEN THE CALL BEGINS. Each datum BY PROGRAM (the guide's laid-datum.mjs) off the statement by which the dump's own 'gosem.cut.vars' lays the variable. In a bare row this is a premise. The card (YtehlolklbdbhkaaDoorCards.lean) ties it to the program's text. -/
def laid_ticketward_ticketwardref_dthird {H : Type} : DataW H := .agg [.lit (.int .u32 1116352408), .lit (.int .u32 1899447441), .lit (.int .u32 3049323471), .lit (.int .u32 3921009573), .lit (.int .u32 961987163), .lit (.int .u32 1508970993), .lit (.int .u32 2453635748), .lit (.int .u32 2870763221), .lit (.int .u32 3624381080), .lit (.int .u32 310598401), .lit (.int .u32 607225278), .lit (.int .u32 1426881987), .lit (.int .u32 1925078388), .lit (.int .u32 2162078206), .lit (.int .u32 2614888103), .lit (.int .u32 3248222580), .lit (.int .u32 3835390401), .lit (.int .u32 4022224774), .lit (.int .u32 264347078), .lit (.int .u32 604807628), .lit (.int .u32 770255983), .lit (.int .u32 1249150122), .lit (.int .u32 1555081692), .lit (.int .u32 1996064986), .lit (.int .u32 2554220882), .lit (.int .u32 2821834349), .lit (.int .u32 2952996808), .lit (.int .u32 3210313671), .lit (.int .u32 3336571891), .lit (.int .u32 3584528711), .lit (.int .u32 113926993), .lit (.int .u32 338241895), .lit (.int .u32 666307205), .lit (.int .u32 773529912), .lit (.int .u32 1294757372), .lit (.int .u32 1396182291), .lit (.int .u32 1695183700), .lit (.int .u32 1986661051), .lit (.int .u32 2177026350), .lit (.int .u32 2456956037), .lit (.int .u32 2730485921), .lit (.int .u32 2820302411), .lit (.int .u32 3259730800), .lit (.int .u32 3345764771), .lit (.int .u32 3516065817), .lit (.int .u32 3600352804), .lit (.int .u32 4094571909), .lit (.int .u32 275423344), .lit (.int .u32 430227734), .lit (.int .u32 506948616), .lit (.int .u32 659060556), .lit (.int .u32 883997877), .lit (.int .u32 958139571), .lit (.int .u32 1322822218), .lit (.int .u32 1537002063), .lit (.int .u32 1747873779), .lit (.int .u32 1955562222), .lit (.int .u32 2024104815), .lit (.int .u32 2227730452), .lit (.int .u32 2361852424), .lit (.int .u32 2428436474), .lit (.int .u32 2756734187), .lit (.int .u32 3204031479), .lit (.int .u32 3329325298)]
def laid_ticketward_ticketwardref_dsecond {H : Type} : DataW H := .agg [.lit (.int .u32 1779033703), .lit (.int .u32 3144134277), .lit (.int .u32 1013904242), .lit (.int .u32 2773480762), .lit (.int .u32 1359893119), .lit (.int .u32 2600822924), .lit (.int .u32 528734635), .lit (.int .u32 1541459225)]
def laid_ticketward_hash_roots {H : Type} : DataW H := .agg [.lit (.int .u32 1116352408), .lit (.int .u32 1899447441), .lit (.int .u32 3049323471), .lit (.int .u32 3921009573), .lit (.int .u32 961987163), .lit (.int .u32 1508970993), .lit (.int .u32 2453635748), .lit (.int .u32 2870763221), .lit (.int .u32 3624381080), .lit (.int .u32 310598401), .lit (.int .u32 607225278), .lit (.int .u32 1426881987), .lit (.int .u32 1925078388), .lit (.int .u32 2162078206), .lit (.int .u32 2614888103), .lit (.int .u32 3248222580), .lit (.int .u32 3835390401), .lit (.int .u32 4022224774), .lit (.int .u32 264347078), .lit (.int .u32 604807628), .lit (.int .u32 770255983), .lit (.int .u32 1249150122), .lit (.int .u32 1555081692), .lit (.int .u32 1996064986), .lit (.int .u32 2554220882), .lit (.int .u32 2821834349), .lit (.int .u32 2952996808), .lit (.int .u32 3210313671), .lit (.int .u32 3336571891), .lit (.int .u32 3584528711), .lit (.int .u32 113926993), .lit (.int .u32 338241895), .lit (.int .u32 666307205), .lit (.int .u32 773529912), .lit (.int .u32 1294757372), .lit (.int .u32 1396182291), .lit (.int .u32 1695183700), .lit (.int .u32 1986661051), .lit (.int .u32 2177026350), .lit (.int .u32 2456956037), .lit (.int .u32 2730485921), .lit (.int .u32 2820302411), .lit (.int .u32 3259730800), .lit (.int .u32 3345764771), .lit (.int .u32 3516065817), .lit (.int .u32 3600352804), .lit (.int .u32 4094571909), .lit (.int .u32 275423344), .lit (.int .u32 430227734), .lit (.int .u32 506948616), .lit (.int .u32 659060556), .lit (.int .u32 883997877), .lit (.int .u32 958139571), .lit (.int .u32 1322822218), .lit (.int .u32 1537002063), .lit (.int .u32 1747873779), .lit (.int .u32 1955562222), .lit (.int .u32 2024104815), .lit (.int .u32 2227730452), .lit (.int .u32 2361852424), .lit (.int .u32 2428436474), .lit (.int .u32 2756734187), .lit (.int .u32 3204031479), .lit (.int .u32 3329325298)]

/-- 'ticketwardlaw.MacSums': WHATEVER THE INPUT: true; the input reads as it did. -/
def macSumsSpec : ChangeSpec := { name := "macSums", fn := fun _ => fun
  | [d1, d2, d3] => { results := [.lit (.bool true)], args := [d1, d2, d3] }
  | _ => none }
def macSumsRow : OpenClaim := { program := "ytehlolklbdbhkaadoor", sum := "2db308475522c17788d226ca31b938df6555c3ae226b4882e85bce41691f1bce", func := "ticketward/ticketwardlaw.MacSums", spec := "macSums", unfollowed := true, recurses := true, named := ["ticketward/ticketwardref.dsecond", "ticketward/ticketwardref.dthird", "ticketward/hash.roots"], apart := false, laid := [("ticketward/ticketwardref.dthird", laid_ticketward_ticketwardref_dthird), ("ticketward/ticketwardref.dsecond", laid_ticketward_ticketwardref_dsecond), ("ticketward/hash.roots", laid_ticketward_hash_roots)] }
def MacSumsSaid : Prop := macSumsRow.holds Tryd.pinned (OpenSpec.ofChange macSumsSpec)

/-- ITS FALSE NEIGHBOUR: 'it returns false'. Refute it at one input. -/
def macSumsWrong : ChangeSpec := { name := "macSums", fn := fun _ => fun
  | [d1, d2, d3] => { results := [.lit (.bool false)], args := [d1, d2, d3] }
  | _ => none }
def MacSumsWrongFalsely : Prop := macSumsRow.holds Tryd.pinned (OpenSpec.ofChange macSumsWrong)

/-- 'ticketwardlaw.MacChains': WHATEVER THE INPUT: true; the input reads as it did. -/
def macChainsSpec : ChangeSpec := { name := "macChains", fn := fun _ => fun
  | [d1, d2] => { results := [.lit (.bool true)], args := [d1, d2] }
  | _ => none }
def macChainsRow : OpenClaim := { program := "ytehlolklbdbhkaadoor", sum := "2db308475522c17788d226ca31b938df6555c3ae226b4882e85bce41691f1bce", func := "ticketward/ticketwardlaw.MacChains", spec := "macChains", unfollowed := true, recurses := true, named := ["ticketward/hash.roots", "ticketward/ticketwardref.dsecond", "ticketward/ticketwardref.dthird"], apart := false, laid := [("ticketward/ticketwardref.dthird", laid_ticketward_ticketwardref_dthird), ("ticketward/ticketwardref.dsecond", laid_ticketward_ticketwardref_dsecond), ("ticketward/hash.roots", laid_ticketward_hash_roots)] }
def MacChainsSaid : Prop := macChainsRow.holds Tryd.pinned (OpenSpec.ofChange macChainsSpec)

/-- ITS FALSE NEIGHBOUR: 'it returns false'. Refute it at one input. -/
def macChainsWrong : ChangeSpec := { name := "macChains", fn := fun _ => fun
  | [d1, d2] => { results := [.lit (.bool false)], args := [d1, d2] }
  | _ => none }
def MacChainsWrongFalsely : Prop := macChainsRow.holds Tryd.pinned (OpenSpec.ofChange macChainsWrong)

/-- 'ticketwardkeep.MacChecks': WHATEVER THE INPUT: true; the input reads as it did. -/
def macChecksSpec : ChangeSpec := { name := "macChecks", fn := fun _ => fun
  | [d1, d2, d3, d4] => { results := [.lit (.bool true)], args := [d1, d2, d3, d4] }
  | _ => none }
def macChecksRow : OpenClaim := { program := "ytehlolklbdbhkaadoor", sum := "2db308475522c17788d226ca31b938df6555c3ae226b4882e85bce41691f1bce", func := "ticketward/ticketwardkeep.MacChecks", spec := "macChecks", named := ["ticketward/hash.roots"], apart := false, laid := [("ticketward/hash.roots", laid_ticketward_hash_roots)] }
def MacChecksSaid : Prop := macChecksRow.holds Tryd.pinned (OpenSpec.ofChange macChecksSpec)

/-- ITS FALSE NEIGHBOUR: 'it returns false'. Refute it at one input. -/
def macChecksWrong : ChangeSpec := { name := "macChecks", fn := fun _ => fun
  | [d1, d2, d3, d4] => { results := [.lit (.bool false)], args := [d1, d2, d3, d4] }
  | _ => none }
def MacChecksWrongFalsely : Prop := macChecksRow.holds Tryd.pinned (OpenSpec.ofChange macChecksWrong)

/-- 'ticketwardkeep.MacKeys': WHATEVER THE INPUT: true; the input reads as it did. -/
def macKeysSpec : ChangeSpec := { name := "macKeys", fn := fun _ => fun
  | [d1, d2, d3] => { results := [.lit (.bool true)], args := [d1, d2, d3] }
  | _ => none }
def macKeysRow : OpenClaim := { program := "ytehlolklbdbhkaadoor", sum := "2db308475522c17788d226ca31b938df6555c3ae226b4882e85bce41691f1bce", func := "ticketward/ticketwardkeep.MacKeys", spec := "macKeys", unfollowed := true, recurses := true, named := ["ticketward/hash.roots", "ticketward/ticketwardref.dsecond", "ticketward/ticketwardref.dthird"], apart := false, laid := [("ticketward/ticketwardref.dthird", laid_ticketward_ticketwardref_dthird), ("ticketward/ticketwardref.dsecond", laid_ticketward_ticketwardref_dsecond), ("ticketward/hash.roots", laid_ticketward_hash_roots)] }
def MacKeysSaid : Prop := macKeysRow.holds Tryd.pinned (OpenSpec.ofChange macKeysSpec)

/-- ITS FALSE NEIGHBOUR: 'it returns false'. Refute it at one input. -/
def macKeysWrong : ChangeSpec := { name := "macKeys", fn := fun _ => fun
  | [d1, d2, d3] => { results := [.lit (.bool false)], args := [d1, d2, d3] }
  | _ => none }
def MacKeysWrongFalsely : Prop := macKeysRow.holds Tryd.pinned (OpenSpec.ofChange macKeysWrong)

/-- 'ticketwardkeep.MacChain': WHATEVER THE INPUT: true; the input reads as it did. -/
def macChainSpec : ChangeSpec := { name := "macChain", fn := fun _ => fun
  | [d1, d2, d3] => { results := [.lit (.bool true)], args := [d1, d2, d3] }
  | _ => none }
def macChainRow : OpenClaim := { program := "ytehlolklbdbhkaadoor", sum := "2db308475522c17788d226ca31b938df6555c3ae226b4882e85bce41691f1bce", func := "ticketward/ticketwardkeep.MacChain", spec := "macChain", named := ["ticketward/hash.roots"], apart := false, laid := [("ticketward/hash.roots", laid_ticketward_hash_roots)] }
def MacChainSaid : Prop := macChainRow.holds Tryd.pinned (OpenSpec.ofChange macChainSpec)

/-- ITS FALSE NEIGHBOUR: 'it returns false'. Refute it at one input. -/
def macChainWrong : ChangeSpec := { name := "macChain", fn := fun _ => fun
  | [d1, d2, d3] => { results := [.lit (.bool false)], args := [d1, d2, d3] }
  | _ => none }
def MacChainWrongFalsely : Prop := macChainRow.holds Tryd.pinned (OpenSpec.ofChange macChainWrong)

/-- 'ticketwardkeep.MacMade': WHATEVER THE INPUT: true; the input reads as it did. -/
def macMadeSpec : ChangeSpec := { name := "macMade", fn := fun _ => fun
  | [d1, d2] => { results := [.lit (.bool true)], args := [d1, d2] }
  | _ => none }
def macMadeRow : OpenClaim := { program := "ytehlolklbdbhkaadoor", sum := "2db308475522c17788d226ca31b938df6555c3ae226b4882e85bce41691f1bce", func := "ticketward/ticketwardkeep.MacMade", spec := "macMade", named := ["ticketward/hash.roots"], apart := false, laid := [("ticketward/hash.roots", laid_ticketward_hash_roots)] }
def MacMadeSaid : Prop := macMadeRow.holds Tryd.pinned (OpenSpec.ofChange macMadeSpec)

/-- ITS FALSE NEIGHBOUR: 'it returns false'. Refute it at one input. -/
def macMadeWrong : ChangeSpec := { name := "macMade", fn := fun _ => fun
  | [d1, d2] => { results := [.lit (.bool false)], args := [d1, d2] }
  | _ => none }
def MacMadeWrongFalsely : Prop := macMadeRow.holds Tryd.pinned (OpenSpec.ofChange macMadeWrong)

/- THE SECOND FORM. 'bulk': how many values and letters a reading holds, each counted each time it is reached (what is shared counts as often as it is met; a slice's spare places count too). A statement '..UptoSaid' is the law's where the arguments, and the package variables that the reading takes, are together of bulk at most 1048576: NARROWER than '..Said'. Prove '..Said' where nothing that the law and all that it calls make is longer than what came in: it says more and counts as full. Else prove '..UptoSaid'. A law counts once. -/
mutual
def uptoBulk {H : Type} : DataW H → Nat
  | .lit (.string bytes) => bytes.length + 1
  | .lit _ => 1
  | .nil => 1
  | .ptr d => uptoBulk d + 1
  | .slice elems spare => uptoBulkAll elems + uptoBulkAll spare + 1
  | .agg parts => uptoBulkAll parts + 1
  | .iface _ d => uptoBulk d + 1
  | .map entries => uptoBulkEntries entries + 1
  | .held _ => 1
def uptoBulkAll {H : Type} : List (DataW H) → Nat
  | [] => 0
  | d :: r => uptoBulk d + uptoBulkAll r
def uptoBulkEntries {H : Type} : List (Lit × DataW H) → Nat
  | [] => 0
  | x :: r => uptoBulkEntry x + uptoBulkEntries r
def uptoBulkEntry {H : Type} : Lit × DataW H → Nat
  | (.string bytes, d) => bytes.length + uptoBulk d + 1
  | (_, d) => uptoBulk d + 1
 end
def uptoSmall : (H : Type) → List (DataW H) → Bool := fun _ ds => decide (uptoBulkAll ds ≤ 1048576)
def OpenSpec.upto (s : _root_.Go.ChangeSpec) : _root_.Go.OpenSpec := { _root_.Go.OpenSpec.ofChange s with cond := some uptoSmall }

/-- 'ticketwardlaw.MacSums', WHERE WHAT IT READS IS OF BULK AT MOST 1048576: true; the input reads as it did. -/
def macSumsUptoRow : OpenClaim := { program := "ytehlolklbdbhkaadoor", sum := "2db308475522c17788d226ca31b938df6555c3ae226b4882e85bce41691f1bce", func := "ticketward/ticketwardlaw.MacSums", spec := "macSums", unfollowed := true, recurses := true, named := ["ticketward/ticketwardref.dsecond", "ticketward/ticketwardref.dthird", "ticketward/hash.roots"], apart := false, laid := [("ticketward/ticketwardref.dthird", laid_ticketward_ticketwardref_dthird), ("ticketward/ticketwardref.dsecond", laid_ticketward_ticketwardref_dsecond), ("ticketward/hash.roots", laid_ticketward_hash_roots)], narrowed := true }
def MacSumsUptoSaid : Prop := macSumsUptoRow.holds Tryd.pinned (OpenSpec.upto macSumsSpec)

/-- 'ticketwardlaw.MacChains', WHERE WHAT IT READS IS OF BULK AT MOST 1048576: true; the input reads as it did. -/
def macChainsUptoRow : OpenClaim := { program := "ytehlolklbdbhkaadoor", sum := "2db308475522c17788d226ca31b938df6555c3ae226b4882e85bce41691f1bce", func := "ticketward/ticketwardlaw.MacChains", spec := "macChains", unfollowed := true, recurses := true, named := ["ticketward/hash.roots", "ticketward/ticketwardref.dsecond", "ticketward/ticketwardref.dthird"], apart := false, laid := [("ticketward/ticketwardref.dthird", laid_ticketward_ticketwardref_dthird), ("ticketward/ticketwardref.dsecond", laid_ticketward_ticketwardref_dsecond), ("ticketward/hash.roots", laid_ticketward_hash_roots)], narrowed := true }
def MacChainsUptoSaid : Prop := macChainsUptoRow.holds Tryd.pinned (OpenSpec.upto macChainsSpec)

/-- 'ticketwardkeep.MacChecks', WHERE WHAT IT READS IS OF BULK AT MOST 1048576: true; the input reads as it did. -/
def macChecksUptoRow : OpenClaim := { program := "ytehlolklbdbhkaadoor", sum := "2db308475522c17788d226ca31b938df6555c3ae226b4882e85bce41691f1bce", func := "ticketward/ticketwardkeep.MacChecks", spec := "macChecks", named := ["ticketward/hash.roots"], apart := false, laid := [("ticketward/hash.roots", laid_ticketward_hash_roots)], narrowed := true }
def MacChecksUptoSaid : Prop := macChecksUptoRow.holds Tryd.pinned (OpenSpec.upto macChecksSpec)

/-- 'ticketwardkeep.MacKeys', WHERE WHAT IT READS IS OF BULK AT MOST 1048576: true; the input reads as it did. -/
def macKeysUptoRow : OpenClaim := { program := "ytehlolklbdbhkaadoor", sum := "2db308475522c17788d226ca31b938df6555c3ae226b4882e85bce41691f1bce", func := "ticketward/ticketwardkeep.MacKeys", spec := "macKeys", unfollowed := true, recurses := true, named := ["ticketward/hash.roots", "ticketward/ticketwardref.dsecond", "ticketward/ticketwardref.dthird"], apart := false, laid := [("ticketward/ticketwardref.dthird", laid_ticketward_ticketwardref_dthird), ("ticketward/ticketwardref.dsecond", laid_ticketward_ticketwardref_dsecond), ("ticketward/hash.roots", laid_ticketward_hash_roots)], narrowed := true }
def MacKeysUptoSaid : Prop := macKeysUptoRow.holds Tryd.pinned (OpenSpec.upto macKeysSpec)

/-- 'ticketwardkeep.MacChain', WHERE WHAT IT READS IS OF BULK AT MOST 1048576: true; the input reads as it did. -/
def macChainUptoRow : OpenClaim := { program := "ytehlolklbdbhkaadoor", sum := "2db308475522c17788d226ca31b938df6555c3ae226b4882e85bce41691f1bce", func := "ticketward/ticketwardkeep.MacChain", spec := "macChain", named := ["ticketward/hash.roots"], apart := false, laid := [("ticketward/hash.roots", laid_ticketward_hash_roots)], narrowed := true }
def MacChainUptoSaid : Prop := macChainUptoRow.holds Tryd.pinned (OpenSpec.upto macChainSpec)

/-- 'ticketwardkeep.MacMade', WHERE WHAT IT READS IS OF BULK AT MOST 1048576: true; the input reads as it did. -/
def macMadeUptoRow : OpenClaim := { program := "ytehlolklbdbhkaadoor", sum := "2db308475522c17788d226ca31b938df6555c3ae226b4882e85bce41691f1bce", func := "ticketward/ticketwardkeep.MacMade", spec := "macMade", named := ["ticketward/hash.roots"], apart := false, laid := [("ticketward/hash.roots", laid_ticketward_hash_roots)], narrowed := true }
def MacMadeUptoSaid : Prop := macMadeUptoRow.holds Tryd.pinned (OpenSpec.upto macMadeSpec)

end Rows
end Go.Proofs.YtehlolklbdbhkaaDoor
