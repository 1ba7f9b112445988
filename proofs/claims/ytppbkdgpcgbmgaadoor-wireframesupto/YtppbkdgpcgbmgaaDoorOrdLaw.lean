import Derived.Test.YtppbkdgpcgbmgaaDoorStrOrd
import Derived.Test.YtppbkdgpcgbmgaaDoorPlays9
import Derived.Test.YtppbkdgpcgbmgaaDoorPlays10
import Derived.Test.YtppbkdgpcgbmgaaDoorUpTo
namespace Go.Proofs.YtppbkdgpcgbmgaaDoor
open Go.RowKit
set_option linter.unusedVariables false

theorem OpD.Ok.later {w w' : World} {o : OpD} (h : OpD.Ok w o) (hb : Below w.heap.size w w') : OpD.Ok w' o := ⟨h.1.later hb, h.2.1.later hb, h.2.2⟩

theorem RdO.ok {w : World} {v : Value} {os : List OpD} (h : RdO w v os) {o : OpD} (ho : o ∈ os) : OpD.Ok w o := by
  obtain ⟨_, a, cap, _, hc⟩ := h
  rcases hc with rfl | ⟨b, off, _, hc⟩
  · simp at ho
  · obtain ⟨i, hi⟩ := List.getElem?_of_mem ho
    exact (hc i o hi).2
theorem RdO.later {w w' : World} {v : Value} {os : List OpD} (h : RdO w v os) (hb : Below w.heap.size w w') : RdO w' v os := by
  obtain ⟨h0, a, cap, h1, hc⟩ := h
  refine ⟨h0, a, cap, h1, ?_⟩
  rcases hc with hc | ⟨b, off, h2, hc⟩
  · exact .inl hc
  · refine .inr ⟨b, off, h2, fun i o hi => ⟨fun j x hj => ?_, (hc i o hi).2.later hb⟩⟩
    have := (hc i o hi).1 j x hj
    rw [hb.cell (p := ⟨b, off + i * 6 + j, none⟩) (World.block_lt_of_cell? w _ this)]; exact this

theorem ordered_plays {o : OpD} {w : World} (ht : Tab w) (hok : OpD.Ok w o) (h1 : 9 ≤ o.k) (h2 : o.k ≤ 10) :
    Calls Tryd.prog 32 #[.agg #[.int .i64 o.k, o.vb, .int .i64 o.z, .int .i64 o.n, .int .u64 o.v, o.vp]] w fun e w' => e = .returned (.bool true) ∧ Below w.heap.size w w' := by
  obtain ⟨hb, hp, l1, l2, l3, _⟩ := hok
  rcases (show o.k = 9 ∨ o.k = 10 by omega) with h | h
  · rw [h]
    exact plays_9 _ _ _ hb hp ht l1 l2 l3 (fun w2 ub up r _ _ => strings_9 _ _ _ r l1)
  · rw [h]
    exact plays_10 _ _ _ hb hp ht l1 l2 l3 (fun w2 ub up r _ _ => strings_10 _ _ _ r l1)

set_option maxHeartbeats 1000000 in
theorem orderedLaw_walk {v : Value} {os : List OpD} {w : World} (ho : RdO w v os) (ht : Tab w) :
    Calls Tryd.prog 4 #[v] w fun e w' => e = .returned (.bool true) ∧ Below w.heap.size w w' := by
  have HO : Hid (RdO w v os) := ho
  clear ho
  go_enter Tryd.func4, Tryd.ntmps4
  go_wp2_with fail
  refine (started_any ht).mono ?_
  rintro e w1 ⟨rfl, hb1⟩
  go_wp2_with fail
  refine (upTo_any 9 10 (HO.out.later hb1) (fun o hm h1 h2 w2 hb2 => ordered_plays ((ht.later hb1).later hb2) (((HO.out.ok hm).later hb1).later hb2) h1 h2)).mono ?_
  rintro e w2 ⟨rfl, hb2⟩
  go_wp2
  go_ret
  exact ⟨rfl, hb1.trans (hb2.mono hb1.size)⟩

end Go.Proofs.YtppbkdgpcgbmgaaDoor
