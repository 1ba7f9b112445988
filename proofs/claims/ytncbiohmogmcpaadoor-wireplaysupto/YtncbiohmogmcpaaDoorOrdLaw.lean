import Derived.Test.YtncbiohmogmcpaaDoorStrOrd
import Derived.Test.YtncbiohmogmcpaaDoorPlays9
import Derived.Test.YtncbiohmogmcpaaDoorPlays10
import Derived.Test.YtncbiohmogmcpaaDoorUpTo
namespace Go.Proofs.YtncbiohmogmcpaaDoor
open Go.RowKit
set_option linter.unusedVariables false

theorem OpD.Ok.later {w w' : World} {o : OpD} (h : OpD.Ok w o) (hb : Below w.heap.size w w') : OpD.Ok w' o := ⟨h.1.later hb, h.2.1.later hb, h.2.2⟩

theorem RdO.ok {w : World} {v : Value} {os : List OpD} (h : RdO w v os) {o : OpD} (ho : o ∈ os) : OpD.Ok w o := by
  obtain ⟨_, a, cap, _, hc⟩ := h
  rcases hc with rfl | ⟨b, off, _, hc⟩
  · simp at ho
  · obtain ⟨i, hi⟩ := List.getElem?_of_mem ho
    exact (hc i o hi).2
theorem RdO.later {w w' : World} {v : Value} {os : List OpD} (h : RdO w v os) (hb : Below w.heap.size w w') : RdO w' v os := by
  obtain ⟨h0, a, cap, h1, hc⟩ := h
  refine ⟨h0, a, cap, h1, ?_⟩
  rcases hc with hc | ⟨b, off, h2, hc⟩
  · exact .inl hc
  · refine .inr ⟨b, off, h2, fun i o hi => ⟨fun j x hj => ?_, (hc i o hi).2.later hb⟩⟩
    have := (hc i o hi).1 j x hj
    rw [hb.cell (p := ⟨b, off + i * 6 + j, none⟩) (World.block_lt_of_cell? w _ this)]; exact this

theorem ordered_plays {o : OpD} {w : World} (ht : Tab w) (hok : OpD.Ok w o) (h1 : 9 ≤ o.k) (h2 : o.k ≤ 10) :
    Calls Tryd.prog 33 #[.agg #[.int .i64 o.k, o.vb, .int .i64 o.z, .int .i64 o.n, .int .u64 o.v, o.vp]] w fun e w' => e = .returned (.bool true) ∧ Below w.heap.size w w' := by
  obtain ⟨hb, hp, l1, l2, l3, _⟩ := hok
  rcases (show o.k = 9 ∨ o.k = 10 by omega) with h | h
  · rw [h]
    exact plays_9 _ _ _ hb hp ht l1 l2 l3 (fun w2 ub up r _ _ => strings_9 _ _ _ r l1)
  · rw [h]
    exact plays_10 _ _ _ hb hp ht l1 l2 l3 (fun w2 ub up r _ _ => strings_10 _ _ _ r l1)


end Go.Proofs.YtncbiohmogmcpaaDoor
