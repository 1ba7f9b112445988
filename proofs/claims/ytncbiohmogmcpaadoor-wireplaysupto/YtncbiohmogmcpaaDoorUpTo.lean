import Derived.Test.YtncbiohmogmcpaaDoorRoomy
namespace Go.Proofs.YtncbiohmogmcpaaDoor
open Go.RowKit
set_option linter.unusedVariables false

/-- One call of a script: its values, and the bytes and parts that they read as. -/
structure OpD where
  k : Int
  vb : Value
  z : Int
  n : Int
  v : Int
  vp : Value
  bs : List Nat
  ps : List (List Nat)
def OpD.cells (o : OpD) : List Value := [.int .i64 o.k, o.vb, .int .i64 o.z, .int .i64 o.n, .int .u64 o.v, o.vp]
def OpD.Ok (w : World) (o : OpD) : Prop := Rd w o.vb o.bs ∧ RdP w o.vp o.ps ∧ o.bs.length ≤ 1048576 ∧ o.ps.length ≤ 1048576 ∧ (∀ i, (o.ps.getD i []).length ≤ 1048576) ∧ 0 ≤ o.v ∧ o.v < 18446744073709551616 ∧ -9223372036854775808 ≤ o.z ∧ o.z ≤ 9223372036854775807 ∧ -9223372036854775808 ≤ o.n ∧ o.n ≤ 9223372036854775807
/-- A script reads as calls. -/
def RdO (w : World) (v : Value) (os : List OpD) : Prop :=
  os.length ≤ 1048576 ∧ ∃ a cap, v = .slice a os.length cap ∧ (os = [] ∨ ∃ b off, a = some ⟨b, off, none⟩ ∧ ∀ i o, os[i]? = some o → (∀ j x, o.cells[j]? = some x → w.cell? ⟨b, off + i * 6 + j, none⟩ = some x) ∧ OpD.Ok w o)

set_option maxRecDepth 100000 in
set_option maxHeartbeats 4000000 in
theorem upTo_any {v : Value} {os : List OpD} {w : World} (lo hi : Int) (ho : RdO w v os)
    (hplays : ∀ o, o ∈ os → lo ≤ o.k → o.k ≤ hi → ∀ w2, Below w.heap.size w w2 → Calls Tryd.prog 33 #[.agg #[.int .i64 o.k, o.vb, .int .i64 o.z, .int .i64 o.n, .int .u64 o.v, o.vp]] w2 fun e w' => e = .returned (.bool true) ∧ Below w2.heap.size w2 w') :
    Calls Tryd.prog 9 #[v, .int .i64 lo, .int .i64 hi] w fun e w' => e = .returned (.bool true) ∧ Below w.heap.size w w' := by
  obtain ⟨hn0, a, cap, rfl, hc⟩ := ho
  obtain ⟨n, hn⟩ : ∃ n, n = os.length := ⟨_, rfl⟩
  rw [← hn] at hn0 ⊢
  have HN : Hid (n = os.length) := hn
  have HP : Hid (∀ o, o ∈ os → lo ≤ o.k → o.k ≤ hi → ∀ w2, Below w.heap.size w w2 → Calls Tryd.prog 33 #[.agg #[.int .i64 o.k, o.vb, .int .i64 o.z, .int .i64 o.n, .int .u64 o.v, o.vp]] w2 fun e w' => e = .returned (.bool true) ∧ Below w2.heap.size w2 w') := hplays
  have HC : Hid (os = [] ∨ ∃ b off, a = some ⟨b, off, none⟩ ∧ ∀ i o, os[i]? = some o → (∀ j x, o.cells[j]? = some x → w.cell? ⟨b, off + i * 6 + j, none⟩ = some x) ∧ OpD.Ok w o) := hc
  clear hn hplays hc
  go_enter Tryd.func9, Tryd.ntmps9
  go_wp2
  go_loopw [7, 8] (fun i x wr => ∃ t : Nat, t ≤ n ∧ i = .int .i64 ((t : Nat) : Int) ∧ Below w.heap.size w wr) (fun i _ _ => n - (intOf i).toNat)
  case atStart => exact ⟨0, Nat.zero_le _, rfl, Below.refl _ _⟩
  case round =>
    obtain ⟨t, htn, rfl, hb1⟩ := hrel
    by_cases hlt : t < n
    · have hlt2 : (t : Int) < (n : Int) := by omega
      rcases HC.out with h0 | ⟨b, off, rfl, hcell⟩
      · have := HN.out; rw [h0] at this; simp at this; omega
      obtain ⟨o, hoi⟩ : ∃ o, os[t]? = some o := ⟨os[t]'(by rw [← HN.out]; exact hlt), List.getElem?_eq_getElem _⟩
      have hmem := List.mem_of_getElem? hoi
      obtain ⟨hcs, _⟩ := hcell t o hoi
      have HCS : Hid (∀ j x, o.cells[j]? = some x → wr.cell? ⟨b, off + t * 6 + j, none⟩ = some x) := fun j x h => by
        have := hcs j x h
        rw [hb1.cell (p := ⟨b, off + t * 6 + j, none⟩) (World.block_lt_of_cell? w _ this)]; exact this
      clear hcs hcell hoi
      have c0 := HCS.out 0 _ rfl
      have c1 := HCS.out 1 _ rfl
      have c2 := HCS.out 2 _ rfl
      have c3 := HCS.out 3 _ rfl
      have c4 := HCS.out 4 _ rfl
      have c5 := HCS.out 5 _ rfl
      simp only [Nat.add_zero] at c0
      obtain ⟨kk, vb, z, nn, vv, vp, bs, ps⟩ := o
      simp only at c0 c1 c2 c3 c4 c5
      by_cases h1 : lo ≤ kk
      · by_cases h2 : kk ≤ hi
        · have HPL := HP.out _ hmem h1 h2 wr hb1
          have HPL2 : Hid (Calls Tryd.prog 33 #[.agg #[.int .i64 kk, vb, .int .i64 z, .int .i64 nn, .int .u64 vv, vp]] wr fun e w' => e = .returned (.bool true) ∧ Below wr.heap.size wr w') := HPL
          clear HPL hmem
          go_wp2_with fail
          refine HPL2.out.mono ?_
          rintro e w2 ⟨rfl, hb2⟩
          go_wp2
          go_roundw
          case rel => exact ⟨t + 1, by omega, by go_num, hb1.trans (hb2.mono hb1.size)⟩
          case measure => simp [intOf]; omega
        · go_wp2
          go_roundw
          case rel => exact ⟨t + 1, by omega, by go_num, hb1⟩
          case measure => simp [intOf]; omega
      · go_wp2
        go_roundw
        case rel => exact ⟨t + 1, by omega, by go_num, hb1⟩
        case measure => simp [intOf]; omega
    · have hge : (n : Int) ≤ (t : Int) := by omega
      go_wp2
      go_ret
      exact ⟨rfl, hb1⟩

end Go.Proofs.YtncbiohmogmcpaaDoor
