import Derived.Test.YtncbiohmogmcpaaDoorFrame
namespace Go.Proofs.YtncbiohmogmcpaaDoor
open Go.RowKit
set_option linter.unusedVariables false

theorem flat_le (ps : List (List Nat)) (k : Nat) : (ps.take k).flatten.length ≤ ps.flatten.length := by
  conv => rhs; rw [← List.take_append_drop k ps, List.flatten_append]
  simp

set_option maxRecDepth 100000 in
set_option maxHeartbeats 1000000 in
theorem join_any {v : Value} {ps : List (List Nat)} {w : World} (hp : RdP w v ps) (hl : ps.flatten.length ≤ 140737488355328) :
    Calls Tryd.prog 19 #[v] w fun e w' => ∃ a m c, e = .returned (.slice a m c) ∧ Own w' w.heap.size (.slice a m c) m ps.flatten ∧ Below w.heap.size w w' := by
  obtain ⟨hn, a, cap, rfl, hp⟩ := hp
  obtain ⟨n, hnn⟩ : ∃ n, n = ps.length := ⟨_, rfl⟩
  rw [← hnn] at hn hp ⊢
  have HN : Hid (n = ps.length) := hnn
  clear hnn
  go_enter Tryd.func19, Tryd.ntmps19
  go_wp2
  go_loopw [3, 4] (fun s i wr => ∃ k a m c, k ≤ n ∧ i = .int .i64 ((k : Nat) : Int) ∧ s = .slice a m c ∧ Own wr w.heap.size (.slice a m c) m (ps.take k).flatten ∧ Below w.heap.size w wr) (fun _ i _ => n - (intOf i).toNat)
  case atStart => exact ⟨0, _, _, _, Nat.zero_le _, rfl, rfl, ⟨rfl, World.ownsRow_nil _ _ _ _⟩, Below.refl _ _⟩
  case round =>
    obtain ⟨k, a1, m1, c1, hk, rfl, rfl, own1, hb1⟩ := hrel
    by_cases hlt : k < n
    · have hlt2 : (k : Int) < (n : Int) := by omega
      rcases hp with hp | ⟨b, off, rfl, hc⟩
      · have := HN.out; rw [hp] at this; simp at this; omega
      obtain ⟨u, hu, hru⟩ := hc k hlt
      clear hc
      obtain ⟨a2, n2, cap2, rfl⟩ := rd_slice hru
      have hu1 : wr.cell? ⟨b, off + k, none⟩ = some (.slice a2 n2 cap2) := by
        rw [hb1.cell (p := ⟨b, off + k, none⟩) (World.block_lt_of_cell? w _ hu)]; exact hu
      have hs1 := hb1.size
      have hfl := flat_snoc ps k (by rw [← HN.out]; exact hlt)
      have hle2 := flat_le ps (k + 1)
      have hm12 : m1 + n2 ≤ 140737488355328 := by
        rw [hfl, List.length_append, ← own1.1, ← (rd_lens hru).1] at hle2
        omega
      have HF : Hid ((ps.take (k + 1)).flatten = (ps.take k).flatten ++ ps.getD k []) := hfl
      clear hfl hle2 hu
      go_wp2_with (at_builtin; refine wpList_append_at rfl _ _ rfl w.heap.size a1 m1 c1 _ rfl own1 a2 n2 cap2 _ rfl (hru.later hb1) hm12 hs1 ?_; intro a5 m5 c5 w5 own5 hb5)
      go_roundw
      case rel => exact ⟨k + 1, a5, m5, c5, by omega, by go_num, rfl, by rw [HF.out]; exact own5, hb1.trans hb5⟩
      case measure => simp [intOf]; omega
    · have hge : (n : Int) ≤ (k : Int) := by omega
      have HF : Hid ((ps.take k).flatten = ps.flatten) := by unfold Hid; rw [List.take_of_length_le (by rw [← HN.out]; omega)]
      go_wp2
      go_ret
      exact ⟨a1, m1, c1, rfl, by rw [← HF.out]; exact own1, hb1⟩

end Go.Proofs.YtncbiohmogmcpaaDoor
