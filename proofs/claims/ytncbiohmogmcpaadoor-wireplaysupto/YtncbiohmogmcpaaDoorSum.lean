import Derived.Test.YtncbiohmogmcpaaDoorBase
import Derived.Test.YtncbiohmogmcpaaDoorPlain
namespace Go.Proofs.YtncbiohmogmcpaaDoor
open Go.RowKit
set_option linter.unusedVariables false

/-- The table lies in memory. -/
def Tab (w : World) : Prop := Hid <| ∀ i, i < 16 → w.cell? ⟨0, i, none⟩ = some (.int .u32 ((tab.getD i 0 : Nat) : Int))
theorem Tab.out {w : World} (h : Tab w) : ∀ i, i < 16 → w.cell? ⟨0, i, none⟩ = some (.int .u32 ((tab.getD i 0 : Nat) : Int)) := h
theorem Tab.later {w w' : World} (h : Tab w) (hb : Below w.heap.size w w') : Tab w' := fun i hi => by
  have := h.out i hi
  rw [hb.cell (p := ⟨0, i, none⟩) (World.block_lt_of_cell? w _ this)]
  exact this

/-- A value reads as lists of bytes. -/
def RdP (w : World) (v : Value) (ps : List (List Nat)) : Prop :=
  ps.length ≤ 281474976710656 ∧ ∃ a cap, v = .slice a ps.length cap ∧ (ps = [] ∨ ∃ b off, a = some ⟨b, off, none⟩ ∧ ∀ i, i < ps.length → ∃ u, w.cell? ⟨b, off + i, none⟩ = some u ∧ Rd w u (ps.getD i []))

theorem RdP.later {w w' : World} {v : Value} {ps : List (List Nat)} (h : RdP w v ps) (hb : Below w.heap.size w w') : RdP w' v ps := by
  obtain ⟨h0, a, cap, h1, h2⟩ := h
  refine ⟨h0, a, cap, h1, ?_⟩
  rcases h2 with h2 | ⟨b, off, rfl, hc⟩
  · exact .inl h2
  · refine .inr ⟨b, off, rfl, fun i hi => ?_⟩
    obtain ⟨u, hu, hr⟩ := hc i hi
    refine ⟨u, ?_, hr.later hb⟩
    rw [hb.cell (p := ⟨b, off + i, none⟩) (World.block_lt_of_cell? w _ hu)]
    exact hu

theorem flat_snoc (ps : List (List Nat)) (k : Nat) (h : k < ps.length) : (ps.take (k + 1)).flatten = (ps.take k).flatten ++ ps.getD k [] := by
  rw [List.take_succ_eq_append_getElem h, List.flatten_append]; simp [List.getD, List.getElem?_eq_getElem h]

set_option maxRecDepth 100000 in
set_option maxHeartbeats 1000000 in
theorem sum_any {v : Value} {ps : List (List Nat)} {w : World} (hp : RdP w v ps) (ht : Tab w) :
    Calls Tryd.prog 56 #[v] w fun e w' => e = .returned (.int .u32 ((sumL ps.flatten : Nat) : Int)) ∧ w' = w := by
  obtain ⟨hn, a, cap, rfl, hp⟩ := hp
  go_enter Tryd.func56, Tryd.ntmps56
  go_wp2
  go_loop [3, 10] (fun x i => ∃ k r : Nat, k ≤ ps.length ∧ i = .int .i64 (k : Int) ∧ x = .int .u32 (r : Int) ∧ r < 4294967296 ∧ r = crcL 4294967295 (ps.take k).flatten) (fun _ i => ps.length - (intOf i).toNat)
  case atStart => exact ⟨0, 4294967295, Nat.zero_le _, rfl, rfl, by omega, rfl⟩
  case round =>
    obtain ⟨k, r, hk, rfl, rfl, hr, hrr⟩ := hrel
    have HR : Hid (r = crcL 4294967295 (ps.take k).flatten) := hrr
    clear hrr
    by_cases hlt : k < ps.length
    · have hlt2 : (k : Int) < (ps.length : Int) := by omega
      rcases hp with rfl | ⟨b, off, rfl, hc⟩
      · simp at hlt
      obtain ⟨u, hu, hru⟩ := hc k hlt
      clear hc
      obtain ⟨hby, a2, cap2, hu2, hle, hm, hl48, hnone, hat⟩ := hru
      rw [hu2] at hu
      clear hu2
      obtain ⟨bs, hbs⟩ : ∃ bs, bs = ps.getD k [] := ⟨_, rfl⟩
      rw [← hbs] at hby hu hle hl48 hat
      have HB : Hid (bs = ps.getD k []) := hbs
      clear hbs
      go_wp2
      go_loop [3, 16] (fun x i => ∃ j q : Nat, j ≤ bs.length ∧ i = .int .i64 (j : Int) ∧ x = .int .u32 (q : Int) ∧ q < 4294967296 ∧ q = crcL r (bs.take j)) (fun _ i => bs.length - (intOf i).toNat)
      case atStart => exact ⟨0, r, Nat.zero_le _, rfl, rfl, hr, rfl⟩
      case round =>
        obtain ⟨j, q, hj, rfl, rfl, hq, hqq⟩ := hrel
        have HQ : Hid (q = crcL r (bs.take j)) := hqq
        clear hqq
        by_cases hjl : j < bs.length
        · have hjl2 : (j : Int) < (bs.length : Int) := by omega
          rcases hat with rfl | ⟨b2, off2, rfl, hc2⟩
          · simp at hjl
          have hcc := hc2 j hjl
          clear hc2
          have hcl := hby.get j
          obtain ⟨c, hcd⟩ : ∃ c, c = bs.getD j 0 := ⟨_, rfl⟩
          rw [← hcd] at hcc hcl
          have HC : Hid (c = bs.getD j 0) := hcd
          clear hcd
          obtain ⟨q1, hq1⟩ : ∃ q1, q1 = q ^^^ c := ⟨_, rfl⟩
          have l1 : q1 < 4294967296 := hq1 ▸ xor_lt q c hq hcl
          have e1 : bits .xor .u32 (q : Int) (c : Int) = (q1 : Int) := by rw [hq1]; exact xor32 q c hq (by omega)
          have em : (c : Int) % 4294967296 = (c : Int) := by omega
          have e2 := and15 q1 l1
          have c1 := ht.out (q1 % 16) (by omega)
          obtain ⟨t1, ht1⟩ : ∃ t1, t1 = tab.getD (q1 % 16) 0 := ⟨_, rfl⟩
          rw [← ht1] at c1
          have lt1 : t1 < 4294967296 := ht1 ▸ tab_lt _
          obtain ⟨q2, hq2⟩ : ∃ q2, q2 = (q1 / 16) ^^^ t1 := ⟨_, rfl⟩
          have l2 : q2 < 4294967296 := by rw [hq2, ht1]; exact half_lt q1 l1
          have e3 : bits .xor .u32 ((q1 : Int) / 16) (t1 : Int) = (q2 : Int) := by rw [hq2]; exact xor32d q1 t1 l1 lt1
          have e4 := and15 q2 l2
          have c2 := ht.out (q2 % 16) (by omega)
          obtain ⟨t2, ht2⟩ : ∃ t2, t2 = tab.getD (q2 % 16) 0 := ⟨_, rfl⟩
          rw [← ht2] at c2
          have lt2 : t2 < 4294967296 := ht2 ▸ tab_lt _
          obtain ⟨q3, hq3⟩ : ∃ q3, q3 = (q2 / 16) ^^^ t2 := ⟨_, rfl⟩
          have l3 : q3 < 4294967296 := by rw [hq3, ht2]; exact half_lt q2 l2
          have e5 : bits .xor .u32 ((q2 : Int) / 16) (t2 : Int) = (q3 : Int) := by rw [hq3]; exact xor32d q2 t2 l2 lt2
          have HF : Hid (q3 = crcB q c) := by rw [hq3, ht2, hq2, ht1, hq1]; rfl
          clear hq1 hq2 hq3 ht1 ht2
          go_wp2
          go_round
          case rel =>
            refine ⟨j + 1, q3, by omega, by go_num, rfl, l3, ?_⟩
            rw [HF.out, take_succ_getD bs j hjl, crcL_snoc, ← HQ.out, ← HC.out]
          case measure => simp [intOf]; omega
        · go_wp2
          go_round
          case rel =>
            refine ⟨k + 1, q, by omega, by go_num, rfl, hq, ?_⟩
            rw [flat_snoc ps k hlt, crcL_append, ← HR.out, ← HB.out, HQ.out, List.take_of_length_le (by omega)]
          case measure => simp [intOf]; omega
    · go_wp2
      go_ret
      have hk2 : ps.take k = ps := List.take_of_length_le (by omega)
      have hr2 := HR.out
      rw [hk2] at hr2
      refine ⟨?_, rfl⟩
      have e := not32 r hr
      simp only [Array.getD, List.size_toArray, List.length_cons]
      show Ending.returned (Value.int IntKind.u32 (bits BinOp.xor IntKind.u32 IntKind.u32.max (r : Int))) = _
      rw [e, hr2]
      rfl

end Go.Proofs.YtncbiohmogmcpaaDoor
