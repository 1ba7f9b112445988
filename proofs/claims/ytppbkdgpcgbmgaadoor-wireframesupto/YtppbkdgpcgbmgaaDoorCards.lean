/-
  DERIVED. GIVEN WITH THE SEED: THE CARDS: each row of YtppbkdgpcgbmgaaDoorRows.lean that lists a variable, with what it lists TIED to the program's text (the seventh form; the later family's looks); each row that meets fmt, with fmt's text TOLD by the authors' own Lean function (tested against real Go, not proved from fmt's source: count such statements apart). THE CARD IS WHAT COUNTS. Prove the row's statement (the work); the ties are given (YtppbkdgpcgbmgaaDoorTie.lean); close each card by the builder's one call (the guide's Derived/Test/ToyasCard.lean, 'card_holds'). Laid BY PROGRAM, IN A SANDBOX (cutbox-door.mjs). By AI agents, Wed Nov 11 2026. No macro, syntax, notation, axiom, sorry.
-/
import Derived.Test.YtppbkdgpcgbmgaaDoorRows
import GoSem.ClaimSeven
namespace Go.Proofs.YtppbkdgpcgbmgaaDoor
namespace Rows

/-- THE TIED CARD OF 'stratalaw1.WireOneWay'. -/
def wireOneWayCard : Claim7 := { stood := { row := wireOneWayRow, standIns := [], harness := (true, "560064242966b29ba12f297ed6e67ad4a90f08f6032420ac32c200a0dd4ad7cc"), looks := false }, kinds := [], alts := [], laidByText := true, laidKinds := [.data], laidTests := true, laidLooks := .later }
def WireOneWayCardSaid : Prop := Claim7.holds Tryd.pinned (.plain (OpenSpec.ofChange wireOneWaySpec)) wireOneWayCard

/-- THE TIED CARD OF 'stratalaw1.WireOrdered'. -/
def wireOrderedCard : Claim7 := { stood := { row := wireOrderedRow, standIns := [], harness := (true, "560064242966b29ba12f297ed6e67ad4a90f08f6032420ac32c200a0dd4ad7cc"), looks := false }, kinds := [], alts := [], laidByText := true, laidKinds := [.data], laidTests := true, laidLooks := .later }
def WireOrderedCardSaid : Prop := Claim7.holds Tryd.pinned (.plain (OpenSpec.ofChange wireOrderedSpec)) wireOrderedCard

/-- THE TIED CARD OF 'stratalaw1.WireNumbers'. -/
def wireNumbersCard : Claim7 := { stood := { row := wireNumbersRow, standIns := [], harness := (true, "560064242966b29ba12f297ed6e67ad4a90f08f6032420ac32c200a0dd4ad7cc"), looks := false }, kinds := [], alts := [], laidByText := true, laidKinds := [.data], laidTests := true, laidLooks := .later }
def WireNumbersCardSaid : Prop := Claim7.holds Tryd.pinned (.plain (OpenSpec.ofChange wireNumbersSpec)) wireNumbersCard

/-- THE TIED CARD OF 'stratalaw1.WireFrames'. -/
def wireFramesCard : Claim7 := { stood := { row := wireFramesRow, standIns := [], harness := (true, "560064242966b29ba12f297ed6e67ad4a90f08f6032420ac32c200a0dd4ad7cc"), looks := false }, kinds := [], alts := [], laidByText := true, laidKinds := [.data], laidTests := true, laidLooks := .later }
def WireFramesCardSaid : Prop := Claim7.holds Tryd.pinned (.plain (OpenSpec.ofChange wireFramesSpec)) wireFramesCard

/-- THE SECOND FORM's CARD OF 'stratalaw1.WireOneWay'. -/
def wireOneWayUptoCard : Claim7 := { stood := { row := wireOneWayUptoRow, standIns := [], harness := (true, "560064242966b29ba12f297ed6e67ad4a90f08f6032420ac32c200a0dd4ad7cc"), looks := false }, kinds := [], alts := [], laidByText := true, laidKinds := [.data], laidTests := true, laidLooks := .later }
def WireOneWayUptoCardSaid : Prop := Claim7.holds Tryd.pinned (.plain (OpenSpec.upto wireOneWaySpec)) wireOneWayUptoCard

/-- THE SECOND FORM's CARD OF 'stratalaw1.WireOrdered'. -/
def wireOrderedUptoCard : Claim7 := { stood := { row := wireOrderedUptoRow, standIns := [], harness := (true, "560064242966b29ba12f297ed6e67ad4a90f08f6032420ac32c200a0dd4ad7cc"), looks := false }, kinds := [], alts := [], laidByText := true, laidKinds := [.data], laidTests := true, laidLooks := .later }
def WireOrderedUptoCardSaid : Prop := Claim7.holds Tryd.pinned (.plain (OpenSpec.upto wireOrderedSpec)) wireOrderedUptoCard

/-- THE SECOND FORM's CARD OF 'stratalaw1.WireNumbers'. -/
def wireNumbersUptoCard : Claim7 := { stood := { row := wireNumbersUptoRow, standIns := [], harness := (true, "560064242966b29ba12f297ed6e67ad4a90f08f6032420ac32c200a0dd4ad7cc"), looks := false }, kinds := [], alts := [], laidByText := true, laidKinds := [.data], laidTests := true, laidLooks := .later }
def WireNumbersUptoCardSaid : Prop := Claim7.holds Tryd.pinned (.plain (OpenSpec.upto wireNumbersSpec)) wireNumbersUptoCard

/-- THE SECOND FORM's CARD OF 'stratalaw1.WireFrames'. -/
def wireFramesUptoCard : Claim7 := { stood := { row := wireFramesUptoRow, standIns := [], harness := (true, "560064242966b29ba12f297ed6e67ad4a90f08f6032420ac32c200a0dd4ad7cc"), looks := false }, kinds := [], alts := [], laidByText := true, laidKinds := [.data], laidTests := true, laidLooks := .later }
def WireFramesUptoCardSaid : Prop := Claim7.holds Tryd.pinned (.plain (OpenSpec.upto wireFramesSpec)) wireFramesUptoCard
end Rows
end Go.Proofs.YtppbkdgpcgbmgaaDoor
