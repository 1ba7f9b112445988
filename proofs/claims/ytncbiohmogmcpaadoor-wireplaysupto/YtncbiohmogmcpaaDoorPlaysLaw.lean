import Derived.Test.YtncbiohmogmcpaaDoorFrLaw
import Derived.Test.YtncbiohmogmcpaaDoorNumLaw
namespace Go.Proofs.YtncbiohmogmcpaaDoor
open Go.RowKit
set_option linter.unusedVariables false

set_option maxRecDepth 100000 in
set_option maxHeartbeats 1000000 in
theorem playsLaw_walk {v : Value} {os : List OpD} {w : World} (ho : RdO w v os) (ht : Tab w) :
    Calls Tryd.prog 3 #[v] w fun e w' => e = .returned (.bool true) ∧ Below w.heap.size w w' := by
  have HO : Hid (RdO w v os) := ho
  clear ho
  go_enter Tryd.func3, Tryd.ntmps3
  go_wp2_with fail
  refine (started_any ht).mono ?_
  rintro e w1 ⟨rfl, hb1⟩
  go_wp2_with fail
  refine (upTo_any 1 13 (HO.out.later hb1) (fun o hm h1 h2 w2 hb2 => ?_)).mono ?_
  · have t2 := (ht.later hb1).later hb2
    have ok2 := ((HO.out.ok hm).later hb1).later hb2
    by_cases h8 : o.k ≤ 8
    · exact numbers_plays t2 ok2 h1 h8
    · by_cases h10 : o.k ≤ 10
      · exact ordered_plays t2 ok2 (by omega) h10
      · exact frames_plays t2 ok2 (by omega) h2
  rintro e w2 ⟨rfl, hb2⟩
  go_wp2
  go_ret
  exact ⟨rfl, hb1.trans (hb2.mono hb1.size)⟩

end Go.Proofs.YtncbiohmogmcpaaDoor
