/-
  NARROWER THAN 'FOR EVERY INPUT', by the rows' own cells (each row's printed sentence says how): BlockBuilds: laid · BlockReads: laid · BlockAgain: laid · BlockLent: laid.
  DERIVED. THE GIVEN ROWS OF THIS SEAT. 4 by the template 'for every input the law returns true; each argument reads behind the call as it read before'; 0 by the template 'total and deterministic' (their statements: YtchebhafabhabaaGreatDoorTotals.lean).
  GIVEN WITH THE SEED: the statements are not yours to turn. If you find one false, say at which input.
  Laid BY PROGRAM, IN A SANDBOX (cutbox-rows.mjs): the forced cells as the released guide's own fill.sh prints them over the translation aba35cd165603b83… (all of the seat's roots in one cut). By AI agents, Wed Nov 11 2026. No macro, syntax, notation, axiom, sorry.
-/
import Derived.Test.YtchebhafabhabaaGreatDoorChecked
import GoSem.Claim
import GoSem.ClaimJoined
import GoSem.ClaimMapViews
import Derived.JoinedTies
import Derived.KernelRfl
namespace Go.Proofs.YtchebhafabhabaaGreatDoor
/- THE CELL 'sum', in the pinned program and in every row, IS THE sha256 OF THE DUMP (.gsa) THAT YtchebhafabhabaaGreatDoorProg.lean LOADS. Nothing in Lean hashes anything: it is a label: what it is worth is what the hold of that sum in a sandbox is worth. -/
noncomputable def Tryz.pinned : Pinned := { name := "ytchebhafabhabaagreatdoor", sum := "aba35cd165603b836edc7be2472fa822a8dda1df85c47f7e9ee44ab7c8eec4da", checked := Tryz.checked }
namespace Rows
def none {H : Type} : Left H := { results := [], args := [] }

/- WHAT THE LISTED PACKAGE-LEVEL VARIABLES READ AS WHEN THE CALL BEGINS. Each datum BY PROGRAM (the guide's laid-datum.mjs) off the statement by which the dump's own 'gosem.cut.vars' lays the variable. In a bare row this is a premise. The card (YtchebhafabhabaaGreatDoorCards.lean) ties it to the program's text. -/
def laid_strata_wire_halves {H : Type} : DataW H := .agg [.lit (.int .u32 0), .lit (.int .u32 274646895), .lit (.int .u32 549293790), .lit (.int .u32 820201905), .lit (.int .u32 1098587580), .lit (.int .u32 1361435347), .lit (.int .u32 1640403810), .lit (.int .u32 1905808397), .lit (.int .u32 2197175160), .lit (.int .u32 2460548119), .lit (.int .u32 2722870694), .lit (.int .u32 2987750089), .lit (.int .u32 3280807620), .lit (.int .u32 3553878443), .lit (.int .u32 3811616794), .lit (.int .u32 4084100981)]

/-- 'stratalaw5.BlockBuilds': WHATEVER THE INPUT: true; the input reads as it did. -/
def blockBuildsSpec : ChangeSpec := { name := "blockBuilds", fn := fun _ => fun
  | [d1, d2, d3, d4] => { results := [.lit (.bool true)], args := [d1, d2, d3, d4] }
  | _ => none }
def blockBuildsRow : OpenClaim := { program := "ytchebhafabhabaagreatdoor", sum := "aba35cd165603b836edc7be2472fa822a8dda1df85c47f7e9ee44ab7c8eec4da", func := "strata/stratalaw5.BlockBuilds", spec := "blockBuilds", inPlace := ["internal/bytealg.Count", "internal/bytealg.IndexByte", "internal/bytealg.Index", "internal/bytealg.Compare"], unfollowed := true, recurses := true, named := ["internal/bytealg.MaxLen", "strata/wire.halves"], apart := false, laid := [("strata/wire.halves", laid_strata_wire_halves)] }
def BlockBuildsSaid : Prop := blockBuildsRow.holds Tryz.pinned (OpenSpec.ofChange blockBuildsSpec)

/-- ITS FALSE NEIGHBOUR: 'it returns false'. Refute it at one input. -/
def blockBuildsWrong : ChangeSpec := { name := "blockBuilds", fn := fun _ => fun
  | [d1, d2, d3, d4] => { results := [.lit (.bool false)], args := [d1, d2, d3, d4] }
  | _ => none }
def BlockBuildsWrongFalsely : Prop := blockBuildsRow.holds Tryz.pinned (OpenSpec.ofChange blockBuildsWrong)

/-- 'stratalaw5.BlockReads': WHATEVER THE INPUT: true; the input reads as it did. -/
def blockReadsSpec : ChangeSpec := { name := "blockReads", fn := fun _ => fun
  | [d1, d2, d3] => { results := [.lit (.bool true)], args := [d1, d2, d3] }
  | _ => none }
def blockReadsRow : OpenClaim := { program := "ytchebhafabhabaagreatdoor", sum := "aba35cd165603b836edc7be2472fa822a8dda1df85c47f7e9ee44ab7c8eec4da", func := "strata/stratalaw5.BlockReads", spec := "blockReads", inPlace := ["internal/bytealg.Count", "internal/bytealg.IndexByte", "internal/bytealg.Index", "internal/bytealg.Compare"], unfollowed := true, recurses := true, named := ["internal/bytealg.MaxLen", "strata/wire.halves"], apart := false, laid := [("strata/wire.halves", laid_strata_wire_halves)] }
def BlockReadsSaid : Prop := blockReadsRow.holds Tryz.pinned (OpenSpec.ofChange blockReadsSpec)

/-- ITS FALSE NEIGHBOUR: 'it returns false'. Refute it at one input. -/
def blockReadsWrong : ChangeSpec := { name := "blockReads", fn := fun _ => fun
  | [d1, d2, d3] => { results := [.lit (.bool false)], args := [d1, d2, d3] }
  | _ => none }
def BlockReadsWrongFalsely : Prop := blockReadsRow.holds Tryz.pinned (OpenSpec.ofChange blockReadsWrong)

/-- 'stratalaw5.BlockAgain': WHATEVER THE INPUT: true; the input reads as it did. -/
def blockAgainSpec : ChangeSpec := { name := "blockAgain", fn := fun _ => fun
  | [d1, d2, d3] => { results := [.lit (.bool true)], args := [d1, d2, d3] }
  | _ => none }
def blockAgainRow : OpenClaim := { program := "ytchebhafabhabaagreatdoor", sum := "aba35cd165603b836edc7be2472fa822a8dda1df85c47f7e9ee44ab7c8eec4da", func := "strata/stratalaw5.BlockAgain", spec := "blockAgain", inPlace := ["internal/bytealg.Compare", "internal/bytealg.IndexByte", "internal/bytealg.Count", "internal/bytealg.Index"], unfollowed := true, recurses := true, named := ["strata/wire.halves", "internal/bytealg.MaxLen"], apart := false, laid := [("strata/wire.halves", laid_strata_wire_halves)] }
def BlockAgainSaid : Prop := blockAgainRow.holds Tryz.pinned (OpenSpec.ofChange blockAgainSpec)

/-- ITS FALSE NEIGHBOUR: 'it returns false'. Refute it at one input. -/
def blockAgainWrong : ChangeSpec := { name := "blockAgain", fn := fun _ => fun
  | [d1, d2, d3] => { results := [.lit (.bool false)], args := [d1, d2, d3] }
  | _ => none }
def BlockAgainWrongFalsely : Prop := blockAgainRow.holds Tryz.pinned (OpenSpec.ofChange blockAgainWrong)

/-- 'stratalaw5.BlockLent': WHATEVER THE INPUT: true; the input reads as it did. -/
def blockLentSpec : ChangeSpec := { name := "blockLent", fn := fun _ => fun
  | [d1, d2] => { results := [.lit (.bool true)], args := [d1, d2] }
  | _ => none }
def blockLentRow : OpenClaim := { program := "ytchebhafabhabaagreatdoor", sum := "aba35cd165603b836edc7be2472fa822a8dda1df85c47f7e9ee44ab7c8eec4da", func := "strata/stratalaw5.BlockLent", spec := "blockLent", inPlace := ["internal/bytealg.Count", "internal/bytealg.IndexByte", "internal/bytealg.Index", "internal/bytealg.Compare"], unfollowed := true, recurses := true, named := ["internal/bytealg.MaxLen", "strata/wire.halves"], apart := false, laid := [("strata/wire.halves", laid_strata_wire_halves)] }
def BlockLentSaid : Prop := blockLentRow.holds Tryz.pinned (OpenSpec.ofChange blockLentSpec)

/-- ITS FALSE NEIGHBOUR: 'it returns false'. Refute it at one input. -/
def blockLentWrong : ChangeSpec := { name := "blockLent", fn := fun _ => fun
  | [d1, d2] => { results := [.lit (.bool false)], args := [d1, d2] }
  | _ => none }
def BlockLentWrongFalsely : Prop := blockLentRow.holds Tryz.pinned (OpenSpec.ofChange blockLentWrong)

/- THE SECOND FORM. 'bulk': how many values and letters a reading holds, each counted each time it is reached (what is shared counts as often as it is met; a slice's spare places count too). A statement '..UptoSaid' is the law's where the arguments, and the package variables that the reading takes, are together of bulk at most 1048576: NARROWER than '..Said'. Prove '..Said' where nothing that the law and all that it calls make is longer than what came in: it says more and counts as full. Else prove '..UptoSaid'. A law counts once. -/
mutual
def uptoBulk {H : Type} : DataW H → Nat
  | .lit (.string bytes) => bytes.length + 1
  | .lit _ => 1
  | .nil => 1
  | .ptr d => uptoBulk d + 1
  | .slice elems spare => uptoBulkAll elems + uptoBulkAll spare + 1
  | .agg parts => uptoBulkAll parts + 1
  | .iface _ d => uptoBulk d + 1
  | .map entries => uptoBulkEntries entries + 1
  | .held _ => 1
def uptoBulkAll {H : Type} : List (DataW H) → Nat
  | [] => 0
  | d :: r => uptoBulk d + uptoBulkAll r
def uptoBulkEntries {H : Type} : List (Lit × DataW H) → Nat
  | [] => 0
  | x :: r => uptoBulkEntry x + uptoBulkEntries r
def uptoBulkEntry {H : Type} : Lit × DataW H → Nat
  | (.string bytes, d) => bytes.length + uptoBulk d + 1
  | (_, d) => uptoBulk d + 1
 end
def uptoSmall : (H : Type) → List (DataW H) → Bool := fun _ ds => decide (uptoBulkAll ds ≤ 1048576)
def OpenSpec.upto (s : _root_.Go.ChangeSpec) : _root_.Go.OpenSpec := { _root_.Go.OpenSpec.ofChange s with cond := some uptoSmall }

/-- 'stratalaw5.BlockBuilds', WHERE WHAT IT READS IS OF BULK AT MOST 1048576: true; the input reads as it did. -/
def blockBuildsUptoRow : OpenClaim := { program := "ytchebhafabhabaagreatdoor", sum := "aba35cd165603b836edc7be2472fa822a8dda1df85c47f7e9ee44ab7c8eec4da", func := "strata/stratalaw5.BlockBuilds", spec := "blockBuilds", inPlace := ["internal/bytealg.Count", "internal/bytealg.IndexByte", "internal/bytealg.Index", "internal/bytealg.Compare"], unfollowed := true, recurses := true, named := ["internal/bytealg.MaxLen", "strata/wire.halves"], apart := false, laid := [("strata/wire.halves", laid_strata_wire_halves)], narrowed := true }
def BlockBuildsUptoSaid : Prop := blockBuildsUptoRow.holds Tryz.pinned (OpenSpec.upto blockBuildsSpec)

/-- 'stratalaw5.BlockReads', WHERE WHAT IT READS IS OF BULK AT MOST 1048576: true; the input reads as it did. -/
def blockReadsUptoRow : OpenClaim := { program := "ytchebhafabhabaagreatdoor", sum := "aba35cd165603b836edc7be2472fa822a8dda1df85c47f7e9ee44ab7c8eec4da", func := "strata/stratalaw5.BlockReads", spec := "blockReads", inPlace := ["internal/bytealg.Count", "internal/bytealg.IndexByte", "internal/bytealg.Index", "internal/bytealg.Compare"], unfollowed := true, recurses := true, named := ["internal/bytealg.MaxLen", "strata/wire.halves"], apart := false, laid := [("strata/wire.halves", laid_strata_wire_halves)], narrowed := true }
def BlockReadsUptoSaid : Prop := blockReadsUptoRow.holds Tryz.pinned (OpenSpec.upto blockReadsSpec)

/-- 'stratalaw5.BlockAgain', WHERE WHAT IT READS IS OF BULK AT MOST 1048576: true; the input reads as it did. -/
def blockAgainUptoRow : OpenClaim := { program := "ytchebhafabhabaagreatdoor", sum := "aba35cd165603b836edc7be2472fa822a8dda1df85c47f7e9ee44ab7c8eec4da", func := "strata/stratalaw5.BlockAgain", spec := "blockAgain", inPlace := ["internal/bytealg.Compare", "internal/bytealg.IndexByte", "internal/bytealg.Count", "internal/bytealg.Index"], unfollowed := true, recurses := true, named := ["strata/wire.halves", "internal/bytealg.MaxLen"], apart := false, laid := [("strata/wire.halves", laid_strata_wire_halves)], narrowed := true }
def BlockAgainUptoSaid : Prop := blockAgainUptoRow.holds Tryz.pinned (OpenSpec.upto blockAgainSpec)

/-- 'stratalaw5.BlockLent', WHERE WHAT IT READS IS OF BULK AT MOST 1048576: true; the input reads as it did. -/
def blockLentUptoRow : OpenClaim := { program := "ytchebhafabhabaagreatdoor", sum := "aba35cd165603b836edc7be2472fa822a8dda1df85c47f7e9ee44ab7c8eec4da", func := "strata/stratalaw5.BlockLent", spec := "blockLent", inPlace := ["internal/bytealg.Count", "internal/bytealg.IndexByte", "internal/bytealg.Index", "internal/bytealg.Compare"], unfollowed := true, recurses := true, named := ["internal/bytealg.MaxLen", "strata/wire.halves"], apart := false, laid := [("strata/wire.halves", laid_strata_wire_halves)], narrowed := true }
def BlockLentUptoSaid : Prop := blockLentUptoRow.holds Tryz.pinned (OpenSpec.upto blockLentSpec)

end Rows
end Go.Proofs.YtchebhafabhabaaGreatDoor
