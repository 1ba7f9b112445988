/-
  NARROWER THAN 'FOR EVERY INPUT', by the rows' own cells (each row's printed sentence says how): WireBursts: laid · WireSums: laid · WireTells: laid · WireMany: laid · WireSorts: laid · WireOneWay: laid · WireCuts: laid · WireBack: laid · WireNumbers: laid · WireOrdered: laid · WireFrames: laid · WirePlays: laid.
  DERIVED. THE GIVEN ROWS OF THIS SEAT. 12 by the template 'for every input the law returns true; each argument reads behind the call as it read before'; 0 by the template 'total and deterministic' (their statements: YtbfeecnhmlcfaaaDoorTotals.lean).
  GIVEN WITH THE SEED: the statements are not yours to turn. If you find one false, say at which input.
  Laid BY PROGRAM, IN A SANDBOX (cutbox-rows.mjs): the forced cells as the released guide's own fill.sh prints them over the translation e3057e0056496879… (all of the seat's roots in one cut). By AI agents, Wed Nov 11 2026. No macro, syntax, notation, axiom, sorry.
-/
import Derived.Test.YtbfeecnhmlcfaaaDoorChecked
import GoSem.Claim
import GoSem.ClaimJoined
import GoSem.ClaimMapViews
import Derived.JoinedTies
import Derived.KernelRfl
namespace Go.Proofs.YtbfeecnhmlcfaaaDoor
/- THE CELL 'sum', in the pinned program and in every row, IS THE sha256 OF THE DUMP (.gsa) THAT YtbfeecnhmlcfaaaDoorProg.lean LOADS. Nothing in Lean hashes anything: it is a label: what it is worth is what the hold of that sum in a sandbox is worth. -/
noncomputable def Tryd.pinned : Pinned := { name := "ytbfeecnhmlcfaaadoor", sum := "e3057e0056496879a2cc8c36091676ff4ff5390d8e41732ec7c3504ef9369cae", checked := Tryd.checked }
namespace Rows
def none {H : Type} : Left H := { results := [], args := [] }

/- WHAT THE LISTED PACKAGE-LEVEL VARIABLES READ AS WHEN THE CALL BEGINS. Each datum BY PROGRAM (the guide's laid-datum.mjs) off the statement by which the dump's own 'gosem.cut.vars' lays the variable. In a bare row this is a premise. The card (YtbfeecnhmlcfaaaDoorCards.lean) ties it to the program's text. -/
def laid_strata_wire_halves {H : Type} : DataW H := .agg [.lit (.int .u32 0), .lit (.int .u32 274646895), .lit (.int .u32 549293790), .lit (.int .u32 820201905), .lit (.int .u32 1098587580), .lit (.int .u32 1361435347), .lit (.int .u32 1640403810), .lit (.int .u32 1905808397), .lit (.int .u32 2197175160), .lit (.int .u32 2460548119), .lit (.int .u32 2722870694), .lit (.int .u32 2987750089), .lit (.int .u32 3280807620), .lit (.int .u32 3553878443), .lit (.int .u32 3811616794), .lit (.int .u32 4084100981)]

/-- 'stratalaw1.WireBursts': WHATEVER THE INPUT: true; the input reads as it did. -/
def wireBurstsSpec : ChangeSpec := { name := "wireBursts", fn := fun _ => fun
  | [d1, d2, d3, d4, d5] => { results := [.lit (.bool true)], args := [d1, d2, d3, d4, d5] }
  | _ => none }
def wireBurstsRow : OpenClaim := { program := "ytbfeecnhmlcfaaadoor", sum := "e3057e0056496879a2cc8c36091676ff4ff5390d8e41732ec7c3504ef9369cae", func := "strata/stratalaw1.WireBursts", spec := "wireBursts", named := ["strata/wire.halves"], apart := false, laid := [("strata/wire.halves", laid_strata_wire_halves)] }
def WireBurstsSaid : Prop := wireBurstsRow.holds Tryd.pinned (OpenSpec.ofChange wireBurstsSpec)

/-- ITS FALSE NEIGHBOUR: 'it returns false'. Refute it at one input. -/
def wireBurstsWrong : ChangeSpec := { name := "wireBursts", fn := fun _ => fun
  | [d1, d2, d3, d4, d5] => { results := [.lit (.bool false)], args := [d1, d2, d3, d4, d5] }
  | _ => none }
def WireBurstsWrongFalsely : Prop := wireBurstsRow.holds Tryd.pinned (OpenSpec.ofChange wireBurstsWrong)

/-- 'stratalaw1.WireSums': WHATEVER THE INPUT: true; the input reads as it did. -/
def wireSumsSpec : ChangeSpec := { name := "wireSums", fn := fun _ => fun
  | [d1, d2, d3] => { results := [.lit (.bool true)], args := [d1, d2, d3] }
  | _ => none }
def wireSumsRow : OpenClaim := { program := "ytbfeecnhmlcfaaadoor", sum := "e3057e0056496879a2cc8c36091676ff4ff5390d8e41732ec7c3504ef9369cae", func := "strata/stratalaw1.WireSums", spec := "wireSums", named := ["strata/wire.halves"], apart := false, laid := [("strata/wire.halves", laid_strata_wire_halves)] }
def WireSumsSaid : Prop := wireSumsRow.holds Tryd.pinned (OpenSpec.ofChange wireSumsSpec)

/-- ITS FALSE NEIGHBOUR: 'it returns false'. Refute it at one input. -/
def wireSumsWrong : ChangeSpec := { name := "wireSums", fn := fun _ => fun
  | [d1, d2, d3] => { results := [.lit (.bool false)], args := [d1, d2, d3] }
  | _ => none }
def WireSumsWrongFalsely : Prop := wireSumsRow.holds Tryd.pinned (OpenSpec.ofChange wireSumsWrong)

/-- 'stratalaw1.WireTells': WHATEVER THE INPUT: true; the input reads as it did. -/
def wireTellsSpec : ChangeSpec := { name := "wireTells", fn := fun _ => fun
  | [d1, d2, d3, d4, d5] => { results := [.lit (.bool true)], args := [d1, d2, d3, d4, d5] }
  | _ => none }
def wireTellsRow : OpenClaim := { program := "ytbfeecnhmlcfaaadoor", sum := "e3057e0056496879a2cc8c36091676ff4ff5390d8e41732ec7c3504ef9369cae", func := "strata/stratalaw1.WireTells", spec := "wireTells", named := ["strata/wire.halves"], apart := false, laid := [("strata/wire.halves", laid_strata_wire_halves)] }
def WireTellsSaid : Prop := wireTellsRow.holds Tryd.pinned (OpenSpec.ofChange wireTellsSpec)

/-- ITS FALSE NEIGHBOUR: 'it returns false'. Refute it at one input. -/
def wireTellsWrong : ChangeSpec := { name := "wireTells", fn := fun _ => fun
  | [d1, d2, d3, d4, d5] => { results := [.lit (.bool false)], args := [d1, d2, d3, d4, d5] }
  | _ => none }
def WireTellsWrongFalsely : Prop := wireTellsRow.holds Tryd.pinned (OpenSpec.ofChange wireTellsWrong)

/-- 'stratalaw1.WireMany': WHATEVER THE INPUT: true; the input reads as it did. -/
def wireManySpec : ChangeSpec := { name := "wireMany", fn := fun _ => fun
  | [d1, d2, d3] => { results := [.lit (.bool true)], args := [d1, d2, d3] }
  | _ => none }
def wireManyRow : OpenClaim := { program := "ytbfeecnhmlcfaaadoor", sum := "e3057e0056496879a2cc8c36091676ff4ff5390d8e41732ec7c3504ef9369cae", func := "strata/stratalaw1.WireMany", spec := "wireMany", named := ["strata/wire.halves"], apart := false, laid := [("strata/wire.halves", laid_strata_wire_halves)] }
def WireManySaid : Prop := wireManyRow.holds Tryd.pinned (OpenSpec.ofChange wireManySpec)

/-- ITS FALSE NEIGHBOUR: 'it returns false'. Refute it at one input. -/
def wireManyWrong : ChangeSpec := { name := "wireMany", fn := fun _ => fun
  | [d1, d2, d3] => { results := [.lit (.bool false)], args := [d1, d2, d3] }
  | _ => none }
def WireManyWrongFalsely : Prop := wireManyRow.holds Tryd.pinned (OpenSpec.ofChange wireManyWrong)

/-- 'stratalaw1.WireSorts': WHATEVER THE INPUT: true; the input reads as it did. -/
def wireSortsSpec : ChangeSpec := { name := "wireSorts", fn := fun _ => fun
  | [d1, d2, d3, d4, d5, d6] => { results := [.lit (.bool true)], args := [d1, d2, d3, d4, d5, d6] }
  | _ => none }
def wireSortsRow : OpenClaim := { program := "ytbfeecnhmlcfaaadoor", sum := "e3057e0056496879a2cc8c36091676ff4ff5390d8e41732ec7c3504ef9369cae", func := "strata/stratalaw1.WireSorts", spec := "wireSorts", inPlace := ["internal/bytealg.Count", "internal/bytealg.IndexByte", "internal/bytealg.Index"], named := ["internal/bytealg.MaxLen", "strata/wire.halves"], apart := false, laid := [("strata/wire.halves", laid_strata_wire_halves)] }
def WireSortsSaid : Prop := wireSortsRow.holds Tryd.pinned (OpenSpec.ofChange wireSortsSpec)

/-- ITS FALSE NEIGHBOUR: 'it returns false'. Refute it at one input. -/
def wireSortsWrong : ChangeSpec := { name := "wireSorts", fn := fun _ => fun
  | [d1, d2, d3, d4, d5, d6] => { results := [.lit (.bool false)], args := [d1, d2, d3, d4, d5, d6] }
  | _ => none }
def WireSortsWrongFalsely : Prop := wireSortsRow.holds Tryd.pinned (OpenSpec.ofChange wireSortsWrong)

/-- 'stratalaw1.WireOneWay': WHATEVER THE INPUT: true; the input reads as it did. -/
def wireOneWaySpec : ChangeSpec := { name := "wireOneWay", fn := fun _ => fun
  | [d1, d2] => { results := [.lit (.bool true)], args := [d1, d2] }
  | _ => none }
def wireOneWayRow : OpenClaim := { program := "ytbfeecnhmlcfaaadoor", sum := "e3057e0056496879a2cc8c36091676ff4ff5390d8e41732ec7c3504ef9369cae", func := "strata/stratalaw1.WireOneWay", spec := "wireOneWay", inPlace := ["internal/bytealg.IndexByte", "internal/bytealg.Count", "internal/bytealg.Index"], named := ["internal/bytealg.MaxLen", "strata/wire.halves"], apart := false, laid := [("strata/wire.halves", laid_strata_wire_halves)] }
def WireOneWaySaid : Prop := wireOneWayRow.holds Tryd.pinned (OpenSpec.ofChange wireOneWaySpec)

/-- ITS FALSE NEIGHBOUR: 'it returns false'. Refute it at one input. -/
def wireOneWayWrong : ChangeSpec := { name := "wireOneWay", fn := fun _ => fun
  | [d1, d2] => { results := [.lit (.bool false)], args := [d1, d2] }
  | _ => none }
def WireOneWayWrongFalsely : Prop := wireOneWayRow.holds Tryd.pinned (OpenSpec.ofChange wireOneWayWrong)

/-- 'stratalaw1.WireCuts': WHATEVER THE INPUT: true; the input reads as it did. -/
def wireCutsSpec : ChangeSpec := { name := "wireCuts", fn := fun _ => fun
  | [d1, d2, d3] => { results := [.lit (.bool true)], args := [d1, d2, d3] }
  | _ => none }
def wireCutsRow : OpenClaim := { program := "ytbfeecnhmlcfaaadoor", sum := "e3057e0056496879a2cc8c36091676ff4ff5390d8e41732ec7c3504ef9369cae", func := "strata/stratalaw1.WireCuts", spec := "wireCuts", inPlace := ["internal/bytealg.Count", "internal/bytealg.IndexByte", "internal/bytealg.Index"], named := ["internal/bytealg.MaxLen", "strata/wire.halves"], apart := false, laid := [("strata/wire.halves", laid_strata_wire_halves)] }
def WireCutsSaid : Prop := wireCutsRow.holds Tryd.pinned (OpenSpec.ofChange wireCutsSpec)

/-- ITS FALSE NEIGHBOUR: 'it returns false'. Refute it at one input. -/
def wireCutsWrong : ChangeSpec := { name := "wireCuts", fn := fun _ => fun
  | [d1, d2, d3] => { results := [.lit (.bool false)], args := [d1, d2, d3] }
  | _ => none }
def WireCutsWrongFalsely : Prop := wireCutsRow.holds Tryd.pinned (OpenSpec.ofChange wireCutsWrong)

/-- 'stratalaw1.WireBack': WHATEVER THE INPUT: true; the input reads as it did. -/
def wireBackSpec : ChangeSpec := { name := "wireBack", fn := fun _ => fun
  | [d1, d2, d3, d4] => { results := [.lit (.bool true)], args := [d1, d2, d3, d4] }
  | _ => none }
def wireBackRow : OpenClaim := { program := "ytbfeecnhmlcfaaadoor", sum := "e3057e0056496879a2cc8c36091676ff4ff5390d8e41732ec7c3504ef9369cae", func := "strata/stratalaw1.WireBack", spec := "wireBack", inPlace := ["internal/bytealg.Count", "internal/bytealg.IndexByte", "internal/bytealg.Index"], named := ["internal/bytealg.MaxLen", "strata/wire.halves"], apart := false, laid := [("strata/wire.halves", laid_strata_wire_halves)] }
def WireBackSaid : Prop := wireBackRow.holds Tryd.pinned (OpenSpec.ofChange wireBackSpec)

/-- ITS FALSE NEIGHBOUR: 'it returns false'. Refute it at one input. -/
def wireBackWrong : ChangeSpec := { name := "wireBack", fn := fun _ => fun
  | [d1, d2, d3, d4] => { results := [.lit (.bool false)], args := [d1, d2, d3, d4] }
  | _ => none }
def WireBackWrongFalsely : Prop := wireBackRow.holds Tryd.pinned (OpenSpec.ofChange wireBackWrong)

/-- 'stratalaw1.WireNumbers': WHATEVER THE INPUT: true; the input reads as it did. -/
def wireNumbersSpec : ChangeSpec := { name := "wireNumbers", fn := fun _ => fun
  | [d] => { results := [.lit (.bool true)], args := [d] }
  | _ => none }
def wireNumbersRow : OpenClaim := { program := "ytbfeecnhmlcfaaadoor", sum := "e3057e0056496879a2cc8c36091676ff4ff5390d8e41732ec7c3504ef9369cae", func := "strata/stratalaw1.WireNumbers", spec := "wireNumbers", inPlace := ["internal/bytealg.Count", "internal/bytealg.IndexByte", "internal/bytealg.Index"], named := ["strata/wire.halves", "internal/bytealg.MaxLen"], apart := false, laid := [("strata/wire.halves", laid_strata_wire_halves)] }
def WireNumbersSaid : Prop := wireNumbersRow.holds Tryd.pinned (OpenSpec.ofChange wireNumbersSpec)

/-- ITS FALSE NEIGHBOUR: 'it returns false'. Refute it at one input. -/
def wireNumbersWrong : ChangeSpec := { name := "wireNumbers", fn := fun _ => fun
  | [d] => { results := [.lit (.bool false)], args := [d] }
  | _ => none }
def WireNumbersWrongFalsely : Prop := wireNumbersRow.holds Tryd.pinned (OpenSpec.ofChange wireNumbersWrong)

/-- 'stratalaw1.WireOrdered': WHATEVER THE INPUT: true; the input reads as it did. -/
def wireOrderedSpec : ChangeSpec := { name := "wireOrdered", fn := fun _ => fun
  | [d] => { results := [.lit (.bool true)], args := [d] }
  | _ => none }
def wireOrderedRow : OpenClaim := { program := "ytbfeecnhmlcfaaadoor", sum := "e3057e0056496879a2cc8c36091676ff4ff5390d8e41732ec7c3504ef9369cae", func := "strata/stratalaw1.WireOrdered", spec := "wireOrdered", inPlace := ["internal/bytealg.Count", "internal/bytealg.IndexByte", "internal/bytealg.Index"], named := ["strata/wire.halves", "internal/bytealg.MaxLen"], apart := false, laid := [("strata/wire.halves", laid_strata_wire_halves)] }
def WireOrderedSaid : Prop := wireOrderedRow.holds Tryd.pinned (OpenSpec.ofChange wireOrderedSpec)

/-- ITS FALSE NEIGHBOUR: 'it returns false'. Refute it at one input. -/
def wireOrderedWrong : ChangeSpec := { name := "wireOrdered", fn := fun _ => fun
  | [d] => { results := [.lit (.bool false)], args := [d] }
  | _ => none }
def WireOrderedWrongFalsely : Prop := wireOrderedRow.holds Tryd.pinned (OpenSpec.ofChange wireOrderedWrong)

/-- 'stratalaw1.WireFrames': WHATEVER THE INPUT: true; the input reads as it did. -/
def wireFramesSpec : ChangeSpec := { name := "wireFrames", fn := fun _ => fun
  | [d] => { results := [.lit (.bool true)], args := [d] }
  | _ => none }
def wireFramesRow : OpenClaim := { program := "ytbfeecnhmlcfaaadoor", sum := "e3057e0056496879a2cc8c36091676ff4ff5390d8e41732ec7c3504ef9369cae", func := "strata/stratalaw1.WireFrames", spec := "wireFrames", inPlace := ["internal/bytealg.Count", "internal/bytealg.IndexByte", "internal/bytealg.Index"], named := ["strata/wire.halves", "internal/bytealg.MaxLen"], apart := false, laid := [("strata/wire.halves", laid_strata_wire_halves)] }
def WireFramesSaid : Prop := wireFramesRow.holds Tryd.pinned (OpenSpec.ofChange wireFramesSpec)

/-- ITS FALSE NEIGHBOUR: 'it returns false'. Refute it at one input. -/
def wireFramesWrong : ChangeSpec := { name := "wireFrames", fn := fun _ => fun
  | [d] => { results := [.lit (.bool false)], args := [d] }
  | _ => none }
def WireFramesWrongFalsely : Prop := wireFramesRow.holds Tryd.pinned (OpenSpec.ofChange wireFramesWrong)

/-- 'stratalaw1.WirePlays': WHATEVER THE INPUT: true; the input reads as it did. -/
def wirePlaysSpec : ChangeSpec := { name := "wirePlays", fn := fun _ => fun
  | [d] => { results := [.lit (.bool true)], args := [d] }
  | _ => none }
def wirePlaysRow : OpenClaim := { program := "ytbfeecnhmlcfaaadoor", sum := "e3057e0056496879a2cc8c36091676ff4ff5390d8e41732ec7c3504ef9369cae", func := "strata/stratalaw1.WirePlays", spec := "wirePlays", inPlace := ["internal/bytealg.Count", "internal/bytealg.IndexByte", "internal/bytealg.Index"], named := ["strata/wire.halves", "internal/bytealg.MaxLen"], apart := false, laid := [("strata/wire.halves", laid_strata_wire_halves)] }
def WirePlaysSaid : Prop := wirePlaysRow.holds Tryd.pinned (OpenSpec.ofChange wirePlaysSpec)

/-- ITS FALSE NEIGHBOUR: 'it returns false'. Refute it at one input. -/
def wirePlaysWrong : ChangeSpec := { name := "wirePlays", fn := fun _ => fun
  | [d] => { results := [.lit (.bool false)], args := [d] }
  | _ => none }
def WirePlaysWrongFalsely : Prop := wirePlaysRow.holds Tryd.pinned (OpenSpec.ofChange wirePlaysWrong)

/- THE SECOND FORM. 'bulk': how many values and letters a reading holds, each counted each time it is reached (what is shared counts as often as it is met; a slice's spare places count too). A statement '..UptoSaid' is the law's where the arguments, and the package variables that the reading takes, are together of bulk at most 1048576: NARROWER than '..Said'. Prove '..Said' where nothing that the law and all that it calls make is longer than what came in: it says more and counts as full. Else prove '..UptoSaid'. A law counts once. -/
mutual
def uptoBulk {H : Type} : DataW H → Nat
  | .lit (.string bytes) => bytes.length + 1
  | .lit _ => 1
  | .nil => 1
  | .ptr d => uptoBulk d + 1
  | .slice elems spare => uptoBulkAll elems + uptoBulkAll spare + 1
  | .agg parts => uptoBulkAll parts + 1
  | .iface _ d => uptoBulk d + 1
  | .map entries => uptoBulkEntries entries + 1
  | .held _ => 1
def uptoBulkAll {H : Type} : List (DataW H) → Nat
  | [] => 0
  | d :: r => uptoBulk d + uptoBulkAll r
def uptoBulkEntries {H : Type} : List (Lit × DataW H) → Nat
  | [] => 0
  | x :: r => uptoBulkEntry x + uptoBulkEntries r
def uptoBulkEntry {H : Type} : Lit × DataW H → Nat
  | (.string bytes, d) => bytes.length + uptoBulk d + 1
  | (_, d) => uptoBulk d + 1
 end
def uptoSmall : (H : Type) → List (DataW H) → Bool := fun _ ds => decide (uptoBulkAll ds ≤ 1048576)
def OpenSpec.upto (s : _root_.Go.ChangeSpec) : _root_.Go.OpenSpec := { _root_.Go.OpenSpec.ofChange s with cond := some uptoSmall }

/-- 'stratalaw1.WireBursts', WHERE WHAT IT READS IS OF BULK AT MOST 1048576: true; the input reads as it did. -/
def wireBurstsUptoRow : OpenClaim := { program := "ytbfeecnhmlcfaaadoor", sum := "e3057e0056496879a2cc8c36091676ff4ff5390d8e41732ec7c3504ef9369cae", func := "strata/stratalaw1.WireBursts", spec := "wireBursts", named := ["strata/wire.halves"], apart := false, laid := [("strata/wire.halves", laid_strata_wire_halves)], narrowed := true }
def WireBurstsUptoSaid : Prop := wireBurstsUptoRow.holds Tryd.pinned (OpenSpec.upto wireBurstsSpec)

/-- 'stratalaw1.WireSums', WHERE WHAT IT READS IS OF BULK AT MOST 1048576: true; the input reads as it did. -/
def wireSumsUptoRow : OpenClaim := { program := "ytbfeecnhmlcfaaadoor", sum := "e3057e0056496879a2cc8c36091676ff4ff5390d8e41732ec7c3504ef9369cae", func := "strata/stratalaw1.WireSums", spec := "wireSums", named := ["strata/wire.halves"], apart := false, laid := [("strata/wire.halves", laid_strata_wire_halves)], narrowed := true }
def WireSumsUptoSaid : Prop := wireSumsUptoRow.holds Tryd.pinned (OpenSpec.upto wireSumsSpec)

/-- 'stratalaw1.WireTells', WHERE WHAT IT READS IS OF BULK AT MOST 1048576: true; the input reads as it did. -/
def wireTellsUptoRow : OpenClaim := { program := "ytbfeecnhmlcfaaadoor", sum := "e3057e0056496879a2cc8c36091676ff4ff5390d8e41732ec7c3504ef9369cae", func := "strata/stratalaw1.WireTells", spec := "wireTells", named := ["strata/wire.halves"], apart := false, laid := [("strata/wire.halves", laid_strata_wire_halves)], narrowed := true }
def WireTellsUptoSaid : Prop := wireTellsUptoRow.holds Tryd.pinned (OpenSpec.upto wireTellsSpec)

/-- 'stratalaw1.WireMany', WHERE WHAT IT READS IS OF BULK AT MOST 1048576: true; the input reads as it did. -/
def wireManyUptoRow : OpenClaim := { program := "ytbfeecnhmlcfaaadoor", sum := "e3057e0056496879a2cc8c36091676ff4ff5390d8e41732ec7c3504ef9369cae", func := "strata/stratalaw1.WireMany", spec := "wireMany", named := ["strata/wire.halves"], apart := false, laid := [("strata/wire.halves", laid_strata_wire_halves)], narrowed := true }
def WireManyUptoSaid : Prop := wireManyUptoRow.holds Tryd.pinned (OpenSpec.upto wireManySpec)

/-- 'stratalaw1.WireSorts', WHERE WHAT IT READS IS OF BULK AT MOST 1048576: true; the input reads as it did. -/
def wireSortsUptoRow : OpenClaim := { program := "ytbfeecnhmlcfaaadoor", sum := "e3057e0056496879a2cc8c36091676ff4ff5390d8e41732ec7c3504ef9369cae", func := "strata/stratalaw1.WireSorts", spec := "wireSorts", inPlace := ["internal/bytealg.Count", "internal/bytealg.IndexByte", "internal/bytealg.Index"], named := ["internal/bytealg.MaxLen", "strata/wire.halves"], apart := false, laid := [("strata/wire.halves", laid_strata_wire_halves)], narrowed := true }
def WireSortsUptoSaid : Prop := wireSortsUptoRow.holds Tryd.pinned (OpenSpec.upto wireSortsSpec)

/-- 'stratalaw1.WireOneWay', WHERE WHAT IT READS IS OF BULK AT MOST 1048576: true; the input reads as it did. -/
def wireOneWayUptoRow : OpenClaim := { program := "ytbfeecnhmlcfaaadoor", sum := "e3057e0056496879a2cc8c36091676ff4ff5390d8e41732ec7c3504ef9369cae", func := "strata/stratalaw1.WireOneWay", spec := "wireOneWay", inPlace := ["internal/bytealg.IndexByte", "internal/bytealg.Count", "internal/bytealg.Index"], named := ["internal/bytealg.MaxLen", "strata/wire.halves"], apart := false, laid := [("strata/wire.halves", laid_strata_wire_halves)], narrowed := true }
def WireOneWayUptoSaid : Prop := wireOneWayUptoRow.holds Tryd.pinned (OpenSpec.upto wireOneWaySpec)

/-- 'stratalaw1.WireCuts', WHERE WHAT IT READS IS OF BULK AT MOST 1048576: true; the input reads as it did. -/
def wireCutsUptoRow : OpenClaim := { program := "ytbfeecnhmlcfaaadoor", sum := "e3057e0056496879a2cc8c36091676ff4ff5390d8e41732ec7c3504ef9369cae", func := "strata/stratalaw1.WireCuts", spec := "wireCuts", inPlace := ["internal/bytealg.Count", "internal/bytealg.IndexByte", "internal/bytealg.Index"], named := ["internal/bytealg.MaxLen", "strata/wire.halves"], apart := false, laid := [("strata/wire.halves", laid_strata_wire_halves)], narrowed := true }
def WireCutsUptoSaid : Prop := wireCutsUptoRow.holds Tryd.pinned (OpenSpec.upto wireCutsSpec)

/-- 'stratalaw1.WireBack', WHERE WHAT IT READS IS OF BULK AT MOST 1048576: true; the input reads as it did. -/
def wireBackUptoRow : OpenClaim := { program := "ytbfeecnhmlcfaaadoor", sum := "e3057e0056496879a2cc8c36091676ff4ff5390d8e41732ec7c3504ef9369cae", func := "strata/stratalaw1.WireBack", spec := "wireBack", inPlace := ["internal/bytealg.Count", "internal/bytealg.IndexByte", "internal/bytealg.Index"], named := ["internal/bytealg.MaxLen", "strata/wire.halves"], apart := false, laid := [("strata/wire.halves", laid_strata_wire_halves)], narrowed := true }
def WireBackUptoSaid : Prop := wireBackUptoRow.holds Tryd.pinned (OpenSpec.upto wireBackSpec)

/-- 'stratalaw1.WireNumbers', WHERE WHAT IT READS IS OF BULK AT MOST 1048576: true; the input reads as it did. -/
def wireNumbersUptoRow : OpenClaim := { program := "ytbfeecnhmlcfaaadoor", sum := "e3057e0056496879a2cc8c36091676ff4ff5390d8e41732ec7c3504ef9369cae", func := "strata/stratalaw1.WireNumbers", spec := "wireNumbers", inPlace := ["internal/bytealg.Count", "internal/bytealg.IndexByte", "internal/bytealg.Index"], named := ["strata/wire.halves", "internal/bytealg.MaxLen"], apart := false, laid := [("strata/wire.halves", laid_strata_wire_halves)], narrowed := true }
def WireNumbersUptoSaid : Prop := wireNumbersUptoRow.holds Tryd.pinned (OpenSpec.upto wireNumbersSpec)

/-- 'stratalaw1.WireOrdered', WHERE WHAT IT READS IS OF BULK AT MOST 1048576: true; the input reads as it did. -/
def wireOrderedUptoRow : OpenClaim := { program := "ytbfeecnhmlcfaaadoor", sum := "e3057e0056496879a2cc8c36091676ff4ff5390d8e41732ec7c3504ef9369cae", func := "strata/stratalaw1.WireOrdered", spec := "wireOrdered", inPlace := ["internal/bytealg.Count", "internal/bytealg.IndexByte", "internal/bytealg.Index"], named := ["strata/wire.halves", "internal/bytealg.MaxLen"], apart := false, laid := [("strata/wire.halves", laid_strata_wire_halves)], narrowed := true }
def WireOrderedUptoSaid : Prop := wireOrderedUptoRow.holds Tryd.pinned (OpenSpec.upto wireOrderedSpec)

/-- 'stratalaw1.WireFrames', WHERE WHAT IT READS IS OF BULK AT MOST 1048576: true; the input reads as it did. -/
def wireFramesUptoRow : OpenClaim := { program := "ytbfeecnhmlcfaaadoor", sum := "e3057e0056496879a2cc8c36091676ff4ff5390d8e41732ec7c3504ef9369cae", func := "strata/stratalaw1.WireFrames", spec := "wireFrames", inPlace := ["internal/bytealg.Count", "internal/bytealg.IndexByte", "internal/bytealg.Index"], named := ["strata/wire.halves", "internal/bytealg.MaxLen"], apart := false, laid := [("strata/wire.halves", laid_strata_wire_halves)], narrowed := true }
def WireFramesUptoSaid : Prop := wireFramesUptoRow.holds Tryd.pinned (OpenSpec.upto wireFramesSpec)

/-- 'stratalaw1.WirePlays', WHERE WHAT IT READS IS OF BULK AT MOST 1048576: true; the input reads as it did. -/
def wirePlaysUptoRow : OpenClaim := { program := "ytbfeecnhmlcfaaadoor", sum := "e3057e0056496879a2cc8c36091676ff4ff5390d8e41732ec7c3504ef9369cae", func := "strata/stratalaw1.WirePlays", spec := "wirePlays", inPlace := ["internal/bytealg.Count", "internal/bytealg.IndexByte", "internal/bytealg.Index"], named := ["strata/wire.halves", "internal/bytealg.MaxLen"], apart := false, laid := [("strata/wire.halves", laid_strata_wire_halves)], narrowed := true }
def WirePlaysUptoSaid : Prop := wirePlaysUptoRow.holds Tryd.pinned (OpenSpec.upto wirePlaysSpec)

end Rows
end Go.Proofs.YtbfeecnhmlcfaaaDoor
