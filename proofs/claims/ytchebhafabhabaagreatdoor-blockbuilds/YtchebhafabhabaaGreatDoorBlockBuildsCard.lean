import Derived.Test.YtchebhafabhabaaGreatDoorK25
import Derived.Test.YtchebhafabhabaaGreatDoorCards
import Derived.Test.YtchebhafabhabaaGreatDoorTie
namespace Go.Proofs.YtchebhafabhabaaGreatDoor.blockBuildsRow
open Go.ChangeShapes Go.WideShapes Go.ChangeAt Go.RowKit
set_option linter.unusedVariables false

set_option maxRecDepth 100000 in
theorem reads (os : Os) {H : Type} (enc : TypeId × Value → H) : ∃ places, DataW.whole enc Tryz.prog (({ World.holding Tryz.prog os ⟨#[], #[], []⟩ with heap := (World.holding Tryz.prog os ⟨#[], #[], []⟩).heap.modify 0 fun | .cells _ t frozen => .cells #[.int .u32 0, .int .u32 274646895, .int .u32 549293790, .int .u32 820201905, .int .u32 1098587580, .int .u32 1361435347, .int .u32 1640403810, .int .u32 1905808397, .int .u32 2197175160, .int .u32 2460548119, .int .u32 2722870694, .int .u32 2987750089, .int .u32 3280807620, .int .u32 3553878443, .int .u32 3811616794, .int .u32 4084100981] t frozen | o => o } : World).forCall (fun _ _ => 0) ⟨#[], #[.int .i64 0, .int .i64 0, .slice none 0 0, .slice none 0 0], []⟩).memory Tryz.f3.params.toList Rows.blockBuildsSpec.vars false (#[.int .i64 0, .int .i64 0, .slice none 0 0, .slice none 0 0] : Array Value).toList 8 = some ([.lit (.int .i64 0), .lit (.int .i64 0), .nil, .nil], [], places) :=
 ⟨[], by kernel_rfl⟩

end Go.Proofs.YtchebhafabhabaaGreatDoor.blockBuildsRow
namespace Go.Proofs.YtchebhafabhabaaGreatDoor

set_option maxRecDepth 100000 in
theorem blockBuilds_card : Rows.BlockBuildsCardSaid :=
 Claim7.holds_tied_plain_at .later [] _ _ _ _ blockBuildsRow.said (fun _ h => by cases h) (by kernel_rfl) (fun _ h => by cases h) blockBuilds_row_tie rfl ⟨rfl, rfl⟩ (by kernel_rfl) rfl blockBuildsRow.plain (by kernel_rfl)
#print axioms blockBuilds_card
end Go.Proofs.YtchebhafabhabaaGreatDoor
