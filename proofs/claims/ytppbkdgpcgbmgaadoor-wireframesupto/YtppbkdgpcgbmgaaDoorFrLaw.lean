import Derived.Test.YtppbkdgpcgbmgaaDoorStrFr
import Derived.Test.YtppbkdgpcgbmgaaDoorOrdLaw
import Derived.Test.YtppbkdgpcgbmgaaDoorPlays11
import Derived.Test.YtppbkdgpcgbmgaaDoorPlays12
import Derived.Test.YtppbkdgpcgbmgaaDoorPlays13
namespace Go.Proofs.YtppbkdgpcgbmgaaDoor
open Go.RowKit
set_option linter.unusedVariables false

theorem frames_plays {o : OpD} {w : World} (ht : Tab w) (hok : OpD.Ok w o) (h1 : 11 ≤ o.k) (h2 : o.k ≤ 13) :
    Calls Tryd.prog 32 #[.agg #[.int .i64 o.k, o.vb, .int .i64 o.z, .int .i64 o.n, .int .u64 o.v, o.vp]] w fun e w' => e = .returned (.bool true) ∧ Below w.heap.size w w' := by
  obtain ⟨hb, hp, l1, l2, l3, _⟩ := hok
  rcases (show o.k = 11 ∨ o.k = 12 ∨ o.k = 13 by omega) with h | h | h
  · rw [h]
    exact plays_11 _ _ _ hb hp ht l1 l2 l3 (fun w2 ub up r rp t => strings_11 _ _ _ r rp t)
  · rw [h]
    exact plays_12 _ _ _ hb hp ht l1 l2 l3 (fun w2 ub up r _ t => strings_12 _ _ _ r t l1)
  · rw [h]
    exact plays_13 _ _ _ hb hp ht l1 l2 l3 (fun w2 ub up r _ t => strings_13 _ _ _ r t l1)

set_option maxHeartbeats 1000000 in
theorem framesLaw_walk {v : Value} {os : List OpD} {w : World} (ho : RdO w v os) (ht : Tab w) :
    Calls Tryd.prog 6 #[v] w fun e w' => e = .returned (.bool true) ∧ Below w.heap.size w w' := by
  have HO : Hid (RdO w v os) := ho
  clear ho
  go_enter Tryd.func6, Tryd.ntmps6
  go_wp2_with fail
  refine (started_any ht).mono ?_
  rintro e w1 ⟨rfl, hb1⟩
  go_wp2_with fail
  refine (upTo_any 11 13 (HO.out.later hb1) (fun o hm h1 h2 w2 hb2 => frames_plays ((ht.later hb1).later hb2) (((HO.out.ok hm).later hb1).later hb2) h1 h2)).mono ?_
  rintro e w2 ⟨rfl, hb2⟩
  go_wp2
  go_ret
  exact ⟨rfl, hb1.trans (hb2.mono hb1.size)⟩

end Go.Proofs.YtppbkdgpcgbmgaaDoor
