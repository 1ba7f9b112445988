import Derived.Test.YtncbiohmogmcpaaDoorStrFr
import Derived.Test.YtncbiohmogmcpaaDoorOrdLaw
import Derived.Test.YtncbiohmogmcpaaDoorPlays11
import Derived.Test.YtncbiohmogmcpaaDoorPlays12
import Derived.Test.YtncbiohmogmcpaaDoorPlays13
namespace Go.Proofs.YtncbiohmogmcpaaDoor
open Go.RowKit
set_option linter.unusedVariables false

theorem frames_plays {o : OpD} {w : World} (ht : Tab w) (hok : OpD.Ok w o) (h1 : 11 ≤ o.k) (h2 : o.k ≤ 13) :
    Calls Tryd.prog 33 #[.agg #[.int .i64 o.k, o.vb, .int .i64 o.z, .int .i64 o.n, .int .u64 o.v, o.vp]] w fun e w' => e = .returned (.bool true) ∧ Below w.heap.size w w' := by
  obtain ⟨hb, hp, l1, l2, l3, _⟩ := hok
  rcases (show o.k = 11 ∨ o.k = 12 ∨ o.k = 13 by omega) with h | h | h
  · rw [h]
    exact plays_11 _ _ _ hb hp ht l1 l2 l3 (fun w2 ub up r rp t => strings_11 _ _ _ r rp t)
  · rw [h]
    exact plays_12 _ _ _ hb hp ht l1 l2 l3 (fun w2 ub up r _ t => strings_12 _ _ _ r t l1)
  · rw [h]
    exact plays_13 _ _ _ hb hp ht l1 l2 l3 (fun w2 ub up r _ t => strings_13 _ _ _ r t l1)


end Go.Proofs.YtncbiohmogmcpaaDoor
