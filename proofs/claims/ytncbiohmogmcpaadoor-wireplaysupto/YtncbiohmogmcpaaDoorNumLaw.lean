import Derived.Test.YtncbiohmogmcpaaDoorNum2
import Derived.Test.YtncbiohmogmcpaaDoorNum3
import Derived.Test.YtncbiohmogmcpaaDoorOrdLaw
import Derived.Test.YtncbiohmogmcpaaDoorPlays1
import Derived.Test.YtncbiohmogmcpaaDoorPlays2
import Derived.Test.YtncbiohmogmcpaaDoorPlays3
import Derived.Test.YtncbiohmogmcpaaDoorPlays4
import Derived.Test.YtncbiohmogmcpaaDoorPlays5
import Derived.Test.YtncbiohmogmcpaaDoorPlays6
import Derived.Test.YtncbiohmogmcpaaDoorPlays7
import Derived.Test.YtncbiohmogmcpaaDoorPlays8
namespace Go.Proofs.YtncbiohmogmcpaaDoor
open Go.RowKit
set_option linter.unusedVariables false

theorem numbers_plays {o : OpD} {w : World} (ht : Tab w) (hok : OpD.Ok w o) (h1 : 1 ≤ o.k) (h2 : o.k ≤ 8) :
    Calls Tryd.prog 33 #[.agg #[.int .i64 o.k, o.vb, .int .i64 o.z, .int .i64 o.n, .int .u64 o.v, o.vp]] w fun e w' => e = .returned (.bool true) ∧ Below w.heap.size w w' := by
  obtain ⟨hb, hp, l1, l2, l3, v0, v1, z0, z1, n0, n1⟩ := hok
  rcases (show o.k = 1 ∨ o.k = 2 ∨ o.k = 3 ∨ o.k = 4 ∨ o.k = 5 ∨ o.k = 6 ∨ o.k = 7 ∨ o.k = 8 by omega) with h | h | h | h | h | h | h | h
  · rw [h]
    obtain ⟨v, hv⟩ := Int.eq_ofNat_of_zero_le v0
    rw [hv]
    exact plays_1 _ _ _ hb hp ht l1 l2 l3 (fun w2 ub up r _ _ => numbers_1 _ _ v (by omega) r)
  · rw [h]
    exact plays_2 _ _ _ hb hp ht l1 l2 l3 (fun w2 ub up r _ _ => numbers_2 _ _ _ r)
  · rw [h]
    exact plays_3 _ _ _ hb hp ht l1 l2 l3 (fun w2 ub up r _ _ => strings_3 _ _ _ r l1)
  · rw [h]
    exact plays_4 _ _ _ hb hp ht l1 l2 l3 (fun w2 ub up r _ _ => strings_4 _ _ _ r l1 n1)
  · rw [h]
    exact plays_5 _ _ _ hb hp ht l1 l2 l3 (fun w2 ub up r _ _ => numbers_5 _ _ _ r n1)
  · rw [h]
    exact plays_6 _ _ _ hb hp ht l1 l2 l3 (fun w2 ub up r _ _ => numbers_6 _ _ _ r)
  · rw [h]
    exact plays_7 _ _ _ hb hp ht l1 l2 l3 (fun w2 ub up r _ _ => numbers_7 _ _ _ r n1)
  · rw [h]
    exact plays_8 _ _ _ hb hp ht l1 l2 l3 (fun w2 ub up r _ _ => numbers_8 _ _ _ r)


end Go.Proofs.YtncbiohmogmcpaaDoor
