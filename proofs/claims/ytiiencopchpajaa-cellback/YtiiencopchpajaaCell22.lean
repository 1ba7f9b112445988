import Derived.Test.YtiiencopchpajaaCell2100
import Derived.Test.YtiiencopchpajaaCell2101
import Derived.Test.YtiiencopchpajaaCell2110
import Derived.Test.YtiiencopchpajaaCell2111
namespace Go.Proofs.Ytiiencopchpajaa
open Go.RowKit
set_option linter.unusedVariables false

theorem cellBack_walk {e : EntD} {w : World} {va vh vn : Value} {us hs ns : List Nat} (hok : EntD.Ok w e) (ra : Rd w va us) (rh : Rd w vh hs) (rn : Rd w vn ns) (hl : ns.length ≤ 140737488351232) :
    Calls Try.prog 6 #[.agg e.cells, va, vh, vn] w fun r w' => r = .returned (.bool true) ∧ Below w.heap.size w w' := by
  obtain ⟨aa, ma, ca, rfl⟩ := rd_slice ra
  obtain ⟨ah, mh, ch, rfl⟩ := rd_slice rh
  obtain ⟨an, mn, cn, rfl⟩ := rd_slice rn
  by_cases hc : checkS e = 0
  · by_cases h1 : ma ≤ 1048576
    · by_cases h2 : mh ≤ 1048576
      · exact back_ok00 hok rn hl hc ra rh h1 h2
      · exact back_ok01 hok rn hl hc ra rh h1 (by omega)
    · by_cases h2 : mh ≤ 1048576
      · exact back_ok10 hok rn hl hc ra rh (by omega) h2
      · exact back_ok11 hok rn hl hc ra rh (by omega) (by omega)
  · exact back_bad hok rn hl hc

end Go.Proofs.Ytiiencopchpajaa
