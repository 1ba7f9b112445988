import Derived.Test.YtemdhpjoakldhaaJ17
import Derived.Test.YtemdhpjoakldhaaJ00
import Derived.Shelf.SlSortCmp.WholeK
import Derived.Test.YtemdhpjoakldhaaJ05
namespace Go.Proofs.Ytemdhpjoakldhaa
open Go.RowKit
set_option linter.unusedVariables false

set_option maxRecDepth 100000 in
set_option maxHeartbeats 1000000 in
theorem order_fns_d (w : World) : Calls Try.prog 63 #[] w fun r w' => r = .returned (.agg #[.func (.func 82) #[] #[], .func (.func 84) #[] #[], .func (.func 86) #[] #[], .func (.func 88) #[] #[], .func (.func 89) #[] #[], .func (.func 90) #[] #[], .func (.func 91) #[] #[], .func (.func 92) #[] #[]]) ∧ BelowD w.heap.size w w' := by
  have A1 := (BelowD.refl w.heap.size w).alloc (Nat.le_refl _) (.cells #[.func (.func 82) #[] #[], .func (.func 84) #[] #[], .func (.func 86) #[] #[], .func (.func 88) #[] #[], .func (.func 89) #[] #[], .func (.func 90) #[] #[], .func (.func 91) #[] #[], .func (.func 92) #[] #[]] 115)
  go_enter Try.func63, Try.ntmps63
  go_wp2
  go_returns
  exact ⟨rfl, A1⟩

set_option maxRecDepth 100000 in
set_option maxHeartbeats 8000000 in
theorem compare_d {a b : EntD} {w : World} (ha : EntD.Ok w a) (hb : EntD.Ok w b) :
    Calls Try.prog 48 #[.agg a.cells, .agg b.cells] w fun r w' => r = .returned (.int .i64 (compareS a b)) ∧ BelowD w.heap.size w w' := by
  have A1 := (BelowD.refl w.heap.size w).alloc (Nat.le_refl _) (.cells a.cells 38)
  have A2 := A1.alloc A1.size (.cells b.cells 38)
  have bxa0 := (EBox.new w a).later ((Below.refl (w.alloc (.cells a.cells 38)).heap.size (w.alloc (.cells a.cells 38))).alloc (Nat.le_refl _) (.cells b.cells 38))
  have bxb0 := EBox.new (w.alloc (.cells a.cells 38)) b
  rw [World.size_alloc] at bxb0
  have BXA0 : Hid (EBox _ w.heap.size a) := bxa0
  have BXB0 : Hid (EBox _ (w.heap.size + 1) b) := bxb0
  have HA : Hid (EntD.Ok w a) := ha
  have HB : Hid (EntD.Ok w b) := hb
  obtain ⟨va, hva⟩ : ∃ v, v = a.cells := ⟨_, rfl⟩
  clear A1 bxa0 bxb0 ha hb hva va
  go_enter Try.func48, Try.ntmps48
  go_wp2_with fail
  refine (order_fns_d _).mono ?_
  rintro e1 w1 ⟨rfl, hb1⟩
  have B1 := A2.trans (hb1.mono A2.size)
  have BXA1 := BXA0.out.later hb1.b
  have BXB1 := BXB0.out.later hb1.b
  clear A2 BXA0 BXB0 hb1
  go_wp2
  go_loopw [6, 7, 9] (fun f n i wr => ∃ t : Nat, t ≤ 8 ∧ i = .int .i64 (t : Int) ∧ (∀ j, j < t → (cmpsS a b).getD j 0 = 0) ∧ EBox wr w.heap.size a ∧ EBox wr (w.heap.size + 1) b ∧ BelowD w.heap.size w wr) (fun _ _ i _ => 8 - (intOf i).toNat)
  case atStart => exact ⟨0, by omega, rfl, fun j hj => by omega, BXA1, BXB1, B1⟩
  case round =>
    obtain ⟨t, ht8, rfl, hz, bxa, bxb, hb1⟩ := hrel
    have HZ : Hid (∀ j, j < t → (cmpsS a b).getD j 0 = 0) := hz
    have BXA : Hid (EBox wr w.heap.size a) := bxa
    have BXB : Hid (EBox wr (w.heap.size + 1) b) := bxb
    clear hz
    by_cases hlt : t < 8
    · obtain ⟨S, hS⟩ : ∃ S, S = (cmpsS a b).getD t 0 := ⟨_, rfl⟩
      have HS : Hid (S = (cmpsS a b).getD t 0) := hS
      clear hS
      have ca0 := bxa.vr
      have ca1 := bxa.fam
      have ca2 := bxa.vq
      have ca3 := bxa.ts
      have ca4 := bxa.seq
      have ca5 := bxa.kind
      have ca6 := bxa.vv
      have cb0 := bxb.vr
      have cb1 := bxb.fam
      have cb2 := bxb.vq
      have cb3 := bxb.ts
      have cb4 := bxb.seq
      have cb5 := bxb.kind
      have cb6 := bxb.vv
      rcases (show t = 0 ∨ t = 1 ∨ t = 2 ∨ t = 3 ∨ t = 4 ∨ t = 5 ∨ t = 6 ∨ t = 7 by omega) with rfl | rfl | rfl | rfl | rfl | rfl | rfl | rfl
      · have HC : Hid (∀ w2, BelowD w.heap.size w w2 → Calls Try.prog 82 #[.agg a.cells, .agg b.cells] w2 fun r w' => r = .returned (.int .i64 S) ∧ BelowD w2.heap.size w2 w') := fun w2 h2 => by rw [HS.out]; exact ord1_d (HA.out.later h2.b) (HB.out.later h2.b)
        have hidx : ∀ w, (Instr.index 115 (.agg #[.func (.func 82) #[] #[], .func (.func 84) #[] #[], .func (.func 86) #[] #[], .func (.func 88) #[] #[], .func (.func 89) #[] #[], .func (.func 90) #[] #[], .func (.func 91) #[] #[], .func (.func 92) #[] #[]]) (.int .i64 0)).run Try.prog w = .ok (.func (.func 82) #[] #[]) w := fun _ => by kernel_rfl
        by_cases hz : S = 0
        · have HZ2 : Hid (∀ j, j < 1 → (cmpsS a b).getD j 0 = 0) := fun j hj => by
            by_cases h : j < 0
            · exact HZ.out j h
            · obtain rfl : j = 0 := by omega
              rw [← HS.out]; exact hz
          subst hz
          have HC2 := HC.out wr hb1
          have HC3 : Hid (Calls Try.prog 82 #[.agg a.cells, .agg b.cells] wr fun r w' => r = .returned (.int .i64 0) ∧ BelowD wr.heap.size wr w') := HC2
          clear HC HC2 HS
          simp only [EntD.cells] at bxa bxb HC3
          go_wp2_with fail
          refine HC3.out.mono ?_
          rintro e2 w2 ⟨rfl, hb2⟩
          have B2 := hb1.trans (hb2.mono hb1.size)
          have bxa2 := BXA.out.later hb2.b
          have bxb2 := BXB.out.later hb2.b
          go_wp2
          go_roundw
          case rel => exact ⟨1, by omega, by go_num, HZ2.out, bxa2, bxb2, B2⟩
          case measure => simp [intOf]
        · have HR : Hid (compareS a b = S) := by unfold Hid compareS; rw [firstNZ_at _ 0 HZ.out (by rw [← HS.out]; exact hz), HS.out]
          have hz1 : (S != 0) = true := by simp; exact hz
          have HC2 := HC.out wr hb1
          have HC3 : Hid (Calls Try.prog 82 #[.agg a.cells, .agg b.cells] wr fun r w' => r = .returned (.int .i64 S) ∧ BelowD wr.heap.size wr w') := HC2
          clear HC HC2 HS
          simp only [EntD.cells] at bxa bxb HC3
          go_wp2_with fail
          refine HC3.out.mono ?_
          rintro e2 w2 ⟨rfl, hb2⟩
          have B2 := hb1.trans (hb2.mono hb1.size)
          go_wp2
          go_ret
          exact ⟨by rw [HR.out]; rfl, B2⟩
      · have HC : Hid (∀ w2, BelowD w.heap.size w w2 → Calls Try.prog 84 #[.agg a.cells, .agg b.cells] w2 fun r w' => r = .returned (.int .i64 S) ∧ BelowD w2.heap.size w2 w') := fun w2 h2 => by rw [HS.out]; exact ord2_d (HA.out.later h2.b) (HB.out.later h2.b)
        have hidx : ∀ w, (Instr.index 115 (.agg #[.func (.func 82) #[] #[], .func (.func 84) #[] #[], .func (.func 86) #[] #[], .func (.func 88) #[] #[], .func (.func 89) #[] #[], .func (.func 90) #[] #[], .func (.func 91) #[] #[], .func (.func 92) #[] #[]]) (.int .i64 1)).run Try.prog w = .ok (.func (.func 84) #[] #[]) w := fun _ => by kernel_rfl
        by_cases hz : S = 0
        · have HZ2 : Hid (∀ j, j < 2 → (cmpsS a b).getD j 0 = 0) := fun j hj => by
            by_cases h : j < 1
            · exact HZ.out j h
            · obtain rfl : j = 1 := by omega
              rw [← HS.out]; exact hz
          subst hz
          have HC2 := HC.out wr hb1
          have HC3 : Hid (Calls Try.prog 84 #[.agg a.cells, .agg b.cells] wr fun r w' => r = .returned (.int .i64 0) ∧ BelowD wr.heap.size wr w') := HC2
          clear HC HC2 HS
          simp only [EntD.cells] at bxa bxb HC3
          go_wp2_with fail
          refine HC3.out.mono ?_
          rintro e2 w2 ⟨rfl, hb2⟩
          have B2 := hb1.trans (hb2.mono hb1.size)
          have bxa2 := BXA.out.later hb2.b
          have bxb2 := BXB.out.later hb2.b
          go_wp2
          go_roundw
          case rel => exact ⟨2, by omega, by go_num, HZ2.out, bxa2, bxb2, B2⟩
          case measure => simp [intOf]
        · have HR : Hid (compareS a b = S) := by unfold Hid compareS; rw [firstNZ_at _ 1 HZ.out (by rw [← HS.out]; exact hz), HS.out]
          have hz1 : (S != 0) = true := by simp; exact hz
          have HC2 := HC.out wr hb1
          have HC3 : Hid (Calls Try.prog 84 #[.agg a.cells, .agg b.cells] wr fun r w' => r = .returned (.int .i64 S) ∧ BelowD wr.heap.size wr w') := HC2
          clear HC HC2 HS
          simp only [EntD.cells] at bxa bxb HC3
          go_wp2_with fail
          refine HC3.out.mono ?_
          rintro e2 w2 ⟨rfl, hb2⟩
          have B2 := hb1.trans (hb2.mono hb1.size)
          go_wp2
          go_ret
          exact ⟨by rw [HR.out]; rfl, B2⟩
      · have HC : Hid (∀ w2, BelowD w.heap.size w w2 → Calls Try.prog 86 #[.agg a.cells, .agg b.cells] w2 fun r w' => r = .returned (.int .i64 S) ∧ BelowD w2.heap.size w2 w') := fun w2 h2 => by rw [HS.out]; exact ord3_d (HA.out.later h2.b) (HB.out.later h2.b)
        have hidx : ∀ w, (Instr.index 115 (.agg #[.func (.func 82) #[] #[], .func (.func 84) #[] #[], .func (.func 86) #[] #[], .func (.func 88) #[] #[], .func (.func 89) #[] #[], .func (.func 90) #[] #[], .func (.func 91) #[] #[], .func (.func 92) #[] #[]]) (.int .i64 2)).run Try.prog w = .ok (.func (.func 86) #[] #[]) w := fun _ => by kernel_rfl
        by_cases hz : S = 0
        · have HZ2 : Hid (∀ j, j < 3 → (cmpsS a b).getD j 0 = 0) := fun j hj => by
            by_cases h : j < 2
            · exact HZ.out j h
            · obtain rfl : j = 2 := by omega
              rw [← HS.out]; exact hz
          subst hz
          have HC2 := HC.out wr hb1
          have HC3 : Hid (Calls Try.prog 86 #[.agg a.cells, .agg b.cells] wr fun r w' => r = .returned (.int .i64 0) ∧ BelowD wr.heap.size wr w') := HC2
          clear HC HC2 HS
          simp only [EntD.cells] at bxa bxb HC3
          go_wp2_with fail
          refine HC3.out.mono ?_
          rintro e2 w2 ⟨rfl, hb2⟩
          have B2 := hb1.trans (hb2.mono hb1.size)
          have bxa2 := BXA.out.later hb2.b
          have bxb2 := BXB.out.later hb2.b
          go_wp2
          go_roundw
          case rel => exact ⟨3, by omega, by go_num, HZ2.out, bxa2, bxb2, B2⟩
          case measure => simp [intOf]
        · have HR : Hid (compareS a b = S) := by unfold Hid compareS; rw [firstNZ_at _ 2 HZ.out (by rw [← HS.out]; exact hz), HS.out]
          have hz1 : (S != 0) = true := by simp; exact hz
          have HC2 := HC.out wr hb1
          have HC3 : Hid (Calls Try.prog 86 #[.agg a.cells, .agg b.cells] wr fun r w' => r = .returned (.int .i64 S) ∧ BelowD wr.heap.size wr w') := HC2
          clear HC HC2 HS
          simp only [EntD.cells] at bxa bxb HC3
          go_wp2_with fail
          refine HC3.out.mono ?_
          rintro e2 w2 ⟨rfl, hb2⟩
          have B2 := hb1.trans (hb2.mono hb1.size)
          go_wp2
          go_ret
          exact ⟨by rw [HR.out]; rfl, B2⟩
      · have HC : Hid (∀ w2, BelowD w.heap.size w w2 → Calls Try.prog 88 #[.agg a.cells, .agg b.cells] w2 fun r w' => r = .returned (.int .i64 S) ∧ BelowD w2.heap.size w2 w') := fun w2 h2 => by rw [HS.out]; exact ord4_d (HA.out.later h2.b) (HB.out.later h2.b)
        have hidx : ∀ w, (Instr.index 115 (.agg #[.func (.func 82) #[] #[], .func (.func 84) #[] #[], .func (.func 86) #[] #[], .func (.func 88) #[] #[], .func (.func 89) #[] #[], .func (.func 90) #[] #[], .func (.func 91) #[] #[], .func (.func 92) #[] #[]]) (.int .i64 3)).run Try.prog w = .ok (.func (.func 88) #[] #[]) w := fun _ => by kernel_rfl
        by_cases hz : S = 0
        · have HZ2 : Hid (∀ j, j < 4 → (cmpsS a b).getD j 0 = 0) := fun j hj => by
            by_cases h : j < 3
            · exact HZ.out j h
            · obtain rfl : j = 3 := by omega
              rw [← HS.out]; exact hz
          subst hz
          have HC2 := HC.out wr hb1
          have HC3 : Hid (Calls Try.prog 88 #[.agg a.cells, .agg b.cells] wr fun r w' => r = .returned (.int .i64 0) ∧ BelowD wr.heap.size wr w') := HC2
          clear HC HC2 HS
          simp only [EntD.cells] at bxa bxb HC3
          go_wp2_with fail
          refine HC3.out.mono ?_
          rintro e2 w2 ⟨rfl, hb2⟩
          have B2 := hb1.trans (hb2.mono hb1.size)
          have bxa2 := BXA.out.later hb2.b
          have bxb2 := BXB.out.later hb2.b
          go_wp2
          go_roundw
          case rel => exact ⟨4, by omega, by go_num, HZ2.out, bxa2, bxb2, B2⟩
          case measure => simp [intOf]
        · have HR : Hid (compareS a b = S) := by unfold Hid compareS; rw [firstNZ_at _ 3 HZ.out (by rw [← HS.out]; exact hz), HS.out]
          have hz1 : (S != 0) = true := by simp; exact hz
          have HC2 := HC.out wr hb1
          have HC3 : Hid (Calls Try.prog 88 #[.agg a.cells, .agg b.cells] wr fun r w' => r = .returned (.int .i64 S) ∧ BelowD wr.heap.size wr w') := HC2
          clear HC HC2 HS
          simp only [EntD.cells] at bxa bxb HC3
          go_wp2_with fail
          refine HC3.out.mono ?_
          rintro e2 w2 ⟨rfl, hb2⟩
          have B2 := hb1.trans (hb2.mono hb1.size)
          go_wp2
          go_ret
          exact ⟨by rw [HR.out]; rfl, B2⟩
      · have HC : Hid (∀ w2, BelowD w.heap.size w w2 → Calls Try.prog 89 #[.agg a.cells, .agg b.cells] w2 fun r w' => r = .returned (.int .i64 S) ∧ BelowD w2.heap.size w2 w') := fun w2 h2 => by rw [HS.out]; exact ord5_d (HA.out.later h2.b) (HB.out.later h2.b)
        have hidx : ∀ w, (Instr.index 115 (.agg #[.func (.func 82) #[] #[], .func (.func 84) #[] #[], .func (.func 86) #[] #[], .func (.func 88) #[] #[], .func (.func 89) #[] #[], .func (.func 90) #[] #[], .func (.func 91) #[] #[], .func (.func 92) #[] #[]]) (.int .i64 4)).run Try.prog w = .ok (.func (.func 89) #[] #[]) w := fun _ => by kernel_rfl
        by_cases hz : S = 0
        · have HZ2 : Hid (∀ j, j < 5 → (cmpsS a b).getD j 0 = 0) := fun j hj => by
            by_cases h : j < 4
            · exact HZ.out j h
            · obtain rfl : j = 4 := by omega
              rw [← HS.out]; exact hz
          subst hz
          have HC2 := HC.out wr hb1
          have HC3 : Hid (Calls Try.prog 89 #[.agg a.cells, .agg b.cells] wr fun r w' => r = .returned (.int .i64 0) ∧ BelowD wr.heap.size wr w') := HC2
          clear HC HC2 HS
          simp only [EntD.cells] at bxa bxb HC3
          go_wp2_with fail
          refine HC3.out.mono ?_
          rintro e2 w2 ⟨rfl, hb2⟩
          have B2 := hb1.trans (hb2.mono hb1.size)
          have bxa2 := BXA.out.later hb2.b
          have bxb2 := BXB.out.later hb2.b
          go_wp2
          go_roundw
          case rel => exact ⟨5, by omega, by go_num, HZ2.out, bxa2, bxb2, B2⟩
          case measure => simp [intOf]
        · have HR : Hid (compareS a b = S) := by unfold Hid compareS; rw [firstNZ_at _ 4 HZ.out (by rw [← HS.out]; exact hz), HS.out]
          have hz1 : (S != 0) = true := by simp; exact hz
          have HC2 := HC.out wr hb1
          have HC3 : Hid (Calls Try.prog 89 #[.agg a.cells, .agg b.cells] wr fun r w' => r = .returned (.int .i64 S) ∧ BelowD wr.heap.size wr w') := HC2
          clear HC HC2 HS
          simp only [EntD.cells] at bxa bxb HC3
          go_wp2_with fail
          refine HC3.out.mono ?_
          rintro e2 w2 ⟨rfl, hb2⟩
          have B2 := hb1.trans (hb2.mono hb1.size)
          go_wp2
          go_ret
          exact ⟨by rw [HR.out]; rfl, B2⟩
      · have HC : Hid (∀ w2, BelowD w.heap.size w w2 → Calls Try.prog 90 #[.agg a.cells, .agg b.cells] w2 fun r w' => r = .returned (.int .i64 S) ∧ BelowD w2.heap.size w2 w') := fun w2 h2 => by rw [HS.out]; exact ord6_d (HA.out.later h2.b) (HB.out.later h2.b)
        have hidx : ∀ w, (Instr.index 115 (.agg #[.func (.func 82) #[] #[], .func (.func 84) #[] #[], .func (.func 86) #[] #[], .func (.func 88) #[] #[], .func (.func 89) #[] #[], .func (.func 90) #[] #[], .func (.func 91) #[] #[], .func (.func 92) #[] #[]]) (.int .i64 5)).run Try.prog w = .ok (.func (.func 90) #[] #[]) w := fun _ => by kernel_rfl
        by_cases hz : S = 0
        · have HZ2 : Hid (∀ j, j < 6 → (cmpsS a b).getD j 0 = 0) := fun j hj => by
            by_cases h : j < 5
            · exact HZ.out j h
            · obtain rfl : j = 5 := by omega
              rw [← HS.out]; exact hz
          subst hz
          have HC2 := HC.out wr hb1
          have HC3 : Hid (Calls Try.prog 90 #[.agg a.cells, .agg b.cells] wr fun r w' => r = .returned (.int .i64 0) ∧ BelowD wr.heap.size wr w') := HC2
          clear HC HC2 HS
          simp only [EntD.cells] at bxa bxb HC3
          go_wp2_with fail
          refine HC3.out.mono ?_
          rintro e2 w2 ⟨rfl, hb2⟩
          have B2 := hb1.trans (hb2.mono hb1.size)
          have bxa2 := BXA.out.later hb2.b
          have bxb2 := BXB.out.later hb2.b
          go_wp2
          go_roundw
          case rel => exact ⟨6, by omega, by go_num, HZ2.out, bxa2, bxb2, B2⟩
          case measure => simp [intOf]
        · have HR : Hid (compareS a b = S) := by unfold Hid compareS; rw [firstNZ_at _ 5 HZ.out (by rw [← HS.out]; exact hz), HS.out]
          have hz1 : (S != 0) = true := by simp; exact hz
          have HC2 := HC.out wr hb1
          have HC3 : Hid (Calls Try.prog 90 #[.agg a.cells, .agg b.cells] wr fun r w' => r = .returned (.int .i64 S) ∧ BelowD wr.heap.size wr w') := HC2
          clear HC HC2 HS
          simp only [EntD.cells] at bxa bxb HC3
          go_wp2_with fail
          refine HC3.out.mono ?_
          rintro e2 w2 ⟨rfl, hb2⟩
          have B2 := hb1.trans (hb2.mono hb1.size)
          go_wp2
          go_ret
          exact ⟨by rw [HR.out]; rfl, B2⟩
      · have HC : Hid (∀ w2, BelowD w.heap.size w w2 → Calls Try.prog 91 #[.agg a.cells, .agg b.cells] w2 fun r w' => r = .returned (.int .i64 S) ∧ BelowD w2.heap.size w2 w') := fun w2 h2 => by rw [HS.out]; exact ord7_d (HA.out.later h2.b) (HB.out.later h2.b)
        have hidx : ∀ w, (Instr.index 115 (.agg #[.func (.func 82) #[] #[], .func (.func 84) #[] #[], .func (.func 86) #[] #[], .func (.func 88) #[] #[], .func (.func 89) #[] #[], .func (.func 90) #[] #[], .func (.func 91) #[] #[], .func (.func 92) #[] #[]]) (.int .i64 6)).run Try.prog w = .ok (.func (.func 91) #[] #[]) w := fun _ => by kernel_rfl
        by_cases hz : S = 0
        · have HZ2 : Hid (∀ j, j < 7 → (cmpsS a b).getD j 0 = 0) := fun j hj => by
            by_cases h : j < 6
            · exact HZ.out j h
            · obtain rfl : j = 6 := by omega
              rw [← HS.out]; exact hz
          subst hz
          have HC2 := HC.out wr hb1
          have HC3 : Hid (Calls Try.prog 91 #[.agg a.cells, .agg b.cells] wr fun r w' => r = .returned (.int .i64 0) ∧ BelowD wr.heap.size wr w') := HC2
          clear HC HC2 HS
          simp only [EntD.cells] at bxa bxb HC3
          go_wp2_with fail
          refine HC3.out.mono ?_
          rintro e2 w2 ⟨rfl, hb2⟩
          have B2 := hb1.trans (hb2.mono hb1.size)
          have bxa2 := BXA.out.later hb2.b
          have bxb2 := BXB.out.later hb2.b
          go_wp2
          go_roundw
          case rel => exact ⟨7, by omega, by go_num, HZ2.out, bxa2, bxb2, B2⟩
          case measure => simp [intOf]
        · have HR : Hid (compareS a b = S) := by unfold Hid compareS; rw [firstNZ_at _ 6 HZ.out (by rw [← HS.out]; exact hz), HS.out]
          have hz1 : (S != 0) = true := by simp; exact hz
          have HC2 := HC.out wr hb1
          have HC3 : Hid (Calls Try.prog 91 #[.agg a.cells, .agg b.cells] wr fun r w' => r = .returned (.int .i64 S) ∧ BelowD wr.heap.size wr w') := HC2
          clear HC HC2 HS
          simp only [EntD.cells] at bxa bxb HC3
          go_wp2_with fail
          refine HC3.out.mono ?_
          rintro e2 w2 ⟨rfl, hb2⟩
          have B2 := hb1.trans (hb2.mono hb1.size)
          go_wp2
          go_ret
          exact ⟨by rw [HR.out]; rfl, B2⟩
      · have HC : Hid (∀ w2, BelowD w.heap.size w w2 → Calls Try.prog 92 #[.agg a.cells, .agg b.cells] w2 fun r w' => r = .returned (.int .i64 S) ∧ BelowD w2.heap.size w2 w') := fun w2 h2 => by rw [HS.out]; exact ord8_d (HA.out.later h2.b) (HB.out.later h2.b)
        have hidx : ∀ w, (Instr.index 115 (.agg #[.func (.func 82) #[] #[], .func (.func 84) #[] #[], .func (.func 86) #[] #[], .func (.func 88) #[] #[], .func (.func 89) #[] #[], .func (.func 90) #[] #[], .func (.func 91) #[] #[], .func (.func 92) #[] #[]]) (.int .i64 7)).run Try.prog w = .ok (.func (.func 92) #[] #[]) w := fun _ => by kernel_rfl
        by_cases hz : S = 0
        · have HZ2 : Hid (∀ j, j < 8 → (cmpsS a b).getD j 0 = 0) := fun j hj => by
            by_cases h : j < 7
            · exact HZ.out j h
            · obtain rfl : j = 7 := by omega
              rw [← HS.out]; exact hz
          subst hz
          have HC2 := HC.out wr hb1
          have HC3 : Hid (Calls Try.prog 92 #[.agg a.cells, .agg b.cells] wr fun r w' => r = .returned (.int .i64 0) ∧ BelowD wr.heap.size wr w') := HC2
          clear HC HC2 HS
          simp only [EntD.cells] at bxa bxb HC3
          go_wp2_with fail
          refine HC3.out.mono ?_
          rintro e2 w2 ⟨rfl, hb2⟩
          have B2 := hb1.trans (hb2.mono hb1.size)
          have bxa2 := BXA.out.later hb2.b
          have bxb2 := BXB.out.later hb2.b
          go_wp2
          go_roundw
          case rel => exact ⟨8, by omega, by go_num, HZ2.out, bxa2, bxb2, B2⟩
          case measure => simp [intOf]
        · have HR : Hid (compareS a b = S) := by unfold Hid compareS; rw [firstNZ_at _ 7 HZ.out (by rw [← HS.out]; exact hz), HS.out]
          have hz1 : (S != 0) = true := by simp; exact hz
          have HC2 := HC.out wr hb1
          have HC3 : Hid (Calls Try.prog 92 #[.agg a.cells, .agg b.cells] wr fun r w' => r = .returned (.int .i64 S) ∧ BelowD wr.heap.size wr w') := HC2
          clear HC HC2 HS
          simp only [EntD.cells] at bxa bxb HC3
          go_wp2_with fail
          refine HC3.out.mono ?_
          rintro e2 w2 ⟨rfl, hb2⟩
          have B2 := hb1.trans (hb2.mono hb1.size)
          go_wp2
          go_ret
          exact ⟨by rw [HR.out]; rfl, B2⟩
    · have hge : (8 : Int) ≤ (t : Int) := by omega
      have HR : Hid (compareS a b = 0) := by unfold Hid compareS; exact firstNZ_none _ (fun j hj => HZ.out j (by have : (cmpsS a b).length = 8 := rfl; omega))
      clear hlt
      go_wp2
      go_ret
      exact ⟨by rw [HR.out]; rfl, hb1⟩

end Go.Proofs.Ytemdhpjoakldhaa


namespace Go.Proofs.Ytemdhpjoakldhaa
open Go.RowKit
set_option linter.unusedVariables false

def laidSort : Go.Shelf.Ren := ⟨fun | 6 => 47 | 14 => 61 | 15 => 62 | 20 => 72 | 21 => 73 | 22 => 74 | 23 => 75 | 24 => 76 | 25 => 77 | 26 => 78 | 27 => 79 | 28 => 80 | 29 => 81 | 46 => 94 | 47 => 95 | 48 => 96 | 49 => 97 | 50 => 98 | 57 => 105 | n => n, fun | 0 => 0 | 3 => 3 | 4 => 4 | 5 => 5 | 9 => 9 | 22 => 25 | 24 => 38 | 25 => 94 | 39 => 113 | 45 => 122 | 46 => 123 | 50 => 110 | 53 => 129 | 55 => 131 | 66 => 136 | 70 => 140 | 76 => 146 | 77 => 147 | n => n, fun n => n⟩
set_option maxRecDepth 100000 in
theorem laysSort : SlLaysF0.n6 Try.prog laidSort := {
  mixed := by kernel_rfl,
  f6 := ⟨ "slices.SortFunc[[]strata/api.Entry,strata/api.Entry]", by decide, Try.func47.trans (congrArg some (by kernel_rfl))⟩,
  f14 := ⟨ "slices.pdqsortCmpFunc[strata/api.Entry]", by decide, Try.func61.trans (congrArg some (by kernel_rfl))⟩,
  f15 := Try.func62.trans (congrArg some (by kernel_rfl)),
  f20 := ⟨ "slices.insertionSortCmpFunc[strata/api.Entry]", by decide, Try.func72.trans (congrArg some (by kernel_rfl))⟩,
  f21 := ⟨ "slices.heapSortCmpFunc[strata/api.Entry]", by decide, Try.func73.trans (congrArg some (by kernel_rfl))⟩,
  f22 := ⟨ "slices.breakPatternsCmpFunc[strata/api.Entry]", by decide, Try.func74.trans (congrArg some (by kernel_rfl))⟩,
  f23 := ⟨ "slices.choosePivotCmpFunc[strata/api.Entry]", by decide, Try.func75.trans (congrArg some (by kernel_rfl))⟩,
  f24 := ⟨ "slices.reverseRangeCmpFunc[strata/api.Entry]", by decide, Try.func76.trans (congrArg some (by kernel_rfl))⟩,
  f25 := ⟨ "slices.partialInsertionSortCmpFunc[strata/api.Entry]", by decide, Try.func77.trans (congrArg some (by kernel_rfl))⟩,
  f26 := ⟨ "slices.partitionEqualCmpFunc[strata/api.Entry]", by decide, Try.func78.trans (congrArg some (by kernel_rfl))⟩,
  f27 := ⟨ "slices.partitionCmpFunc[strata/api.Entry]", by decide, Try.func79.trans (congrArg some (by kernel_rfl))⟩,
  f28 := Try.func80.trans (congrArg some (by kernel_rfl)),
  f29 := Try.func81.trans (congrArg some (by kernel_rfl)),
  f46 := ⟨ "slices.siftDownCmpFunc[strata/api.Entry]", by decide, Try.func94.trans (congrArg some (by kernel_rfl))⟩,
  f47 := Try.func95.trans (congrArg some (by kernel_rfl)),
  f48 := Try.func96.trans (congrArg some (by kernel_rfl)),
  f49 := ⟨ "slices.medianAdjacentCmpFunc[strata/api.Entry]", by decide, Try.func97.trans (congrArg some (by kernel_rfl))⟩,
  f50 := ⟨ "slices.medianCmpFunc[strata/api.Entry]", by decide, Try.func98.trans (congrArg some (by kernel_rfl))⟩,
  f57 := ⟨ "slices.order2CmpFunc[strata/api.Entry]", by decide, Try.func105.trans (congrArg some (by kernel_rfl))⟩,
  t0 := Try.underlying0,
  a0 := Try.isAgg0,
  z0 := Try.sizeOf0,
  v0 := Try.zeroValue0,
  t3 := Try.underlying3,
  a3 := Try.isAgg3,
  z3 := Try.sizeOf3,
  v3 := Try.zeroValue3,
  t4 := Try.underlying4,
  a4 := Try.isAgg4,
  z4 := Try.sizeOf4,
  v4 := Try.zeroValue4,
  t5 := Try.underlying5,
  a5 := Try.isAgg5,
  z5 := Try.sizeOf5,
  v5 := Try.zeroValue5,
  t9 := Try.underlying9,
  a9 := Try.isAgg9,
  z9 := Try.sizeOf9,
  v9 := Try.zeroValue9,
  t22 := Try.underlying25,
  a22 := Try.isAgg25,
  z22 := Try.sizeOf25,
  v22 := Try.zeroValue25,
  t25 := Try.underlying94,
  a25 := Try.isAgg94,
  z25 := Try.sizeOf94,
  v25 := Try.zeroValue94,
  t39 := Try.underlying113,
  a39 := Try.isAgg113,
  z39 := Try.sizeOf113,
  v39 := Try.zeroValue113,
  t45 := Try.underlying122,
  a45 := Try.isAgg122,
  z45 := Try.sizeOf122,
  v45 := Try.zeroValue122,
  t46 := Try.underlying123,
  a46 := Try.isAgg123,
  z46 := Try.sizeOf123,
  v46 := Try.zeroValue123,
  t50 := Try.underlying110,
  a50 := Try.isAgg110,
  z50 := Try.sizeOf110,
  v50 := Try.zeroValue110,
  t53 := Try.underlying129,
  a53 := Try.isAgg129,
  z53 := Try.sizeOf129,
  v53 := Try.zeroValue129,
  t55 := Try.underlying131,
  a55 := Try.isAgg131,
  z55 := Try.sizeOf131,
  v55 := Try.zeroValue131,
  t66 := Try.underlying136,
  a66 := Try.isAgg136,
  z66 := Try.sizeOf136,
  v66 := Try.zeroValue136,
  t70 := Try.underlying140,
  a70 := Try.isAgg140,
  z70 := Try.sizeOf140,
  v70 := Try.zeroValue140,
  t76 := Try.underlying146,
  a76 := Try.isAgg146,
  z76 := Try.sizeOf146,
  v76 := Try.zeroValue146,
  t77 := Try.underlying147,
  a77 := Try.isAgg147,
  z77 := Try.sizeOf147,
  v77 := Try.zeroValue147 }
end Go.Proofs.Ytemdhpjoakldhaa

namespace Go.Proofs.Ytemdhpjoakldhaa
open Go.RowKit
set_option linter.unusedVariables false

/-- An entry that is read in the world Z. -/
abbrev EA (Z : World) : Type := { x : EntD // EntD.Ok Z x }
def eaZ (Z : World) : EA Z := ⟨⟨.slice none 0 0, 0, .slice none 0 0, 0, 0, 0, .slice none 0 0, [], [], []⟩, by
  have : Rd Z (.slice none 0 0) [] := ⟨(fun x hx => by cases hx), none, 0, rfl, Nat.le_refl _, Nat.zero_le _, Nat.zero_le _, .inl rfl, .inl rfl⟩
  exact ⟨this, this, this⟩⟩
instance (Z : World) : Inhabited (EA Z) := ⟨eaZ Z⟩
def encA (Z : World) (x : EA Z) : List Value := x.1.cells.toList
def cfA (Z : World) (x y : EA Z) : Int := compareS x.1 y.1
theorem swo_cfA (Z : World) : Go.Sort.SWO (ltOf (cfA Z)) := by
  refine ⟨fun x => ?_, fun x y z h k => ?_, fun x y z h k => ?_⟩
  · simp [ltOf, cfA, compareS_self]
  · have h1 : compareS x.1 y.1 < 0 := of_decide_eq_true h
    have k1 : compareS y.1 z.1 < 0 := of_decide_eq_true k
    have := compareS_tri x.1 y.1 z.1
    unfold Tri at this
    exact decide_eq_true (p := compareS x.1 z.1 < 0) (by omega)
  · have h1 : ¬ compareS x.1 y.1 < 0 := of_decide_eq_false h
    have k1 : ¬ compareS y.1 z.1 < 0 := of_decide_eq_false k
    have := compareS_tri x.1 y.1 z.1
    unfold Tri at this
    exact decide_eq_false (p := compareS x.1 z.1 < 0) (by omega)
theorem encA_one (Z : World) (x : EA Z) : ∀ v ∈ encA Z x, v.oneCell' = true := by
  obtain ⟨⟨vr, fam, vq, ts, seq, kind, vv, row, qual, val⟩, r1, r2, r3⟩ := x
  obtain ⟨_, a1, c1, e1, _⟩ := r1
  obtain ⟨_, a2, c2, e2, _⟩ := r2
  obtain ⟨_, a3, c3, e3, _⟩ := r3
  simp only at e1 e2 e3
  subst e1 e2 e3
  intro v hv
  simp only [encA, EntD.cells, List.mem_cons, List.not_mem_nil, or_false] at hv
  rcases hv with rfl | rfl | rfl | rfl | rfl | rfl | rfl <;> rfl
theorem encA_no8 (Z : World) (x : EA Z) (j : Nat) (n : Int) : (encA Z x)[j]? ≠ some (.int .u8 n) := by
  intro h
  have hv := List.mem_of_getElem? h
  obtain ⟨⟨vr, fam, vq, ts, seq, kind, vv, row, qual, val⟩, r1, r2, r3⟩ := x
  obtain ⟨_, a1, c1, e1, _⟩ := r1
  obtain ⟨_, a2, c2, e2, _⟩ := r2
  obtain ⟨_, a3, c3, e3, _⟩ := r3
  simp only at e1 e2 e3
  subst e1 e2 e3
  simp [encA, EntD.cells] at hv
theorem cell_sort {Z : World} {blk off m : Nat} {d dk : Array (EA Z)} {os : Array Obj} (hH : Go.Sort.HoldsK (encA Z) 7 Z blk off d) (hs : dk.size = d.size) {b o : Nat} {n : Int} (hc : Z.cell? ⟨b, o, none⟩ = some (.int .u8 n)) : (sortWorldK (encA Z) 7 Z blk off m dk os).cell? ⟨b, o, none⟩ = some (.int .u8 n) := by
  have lt := World.block_lt_of_cell? Z _ hc
  have hout : b ≠ blk ∨ o < off ∨ off + (Go.Sort.flatK (encA Z) 7 dk).size ≤ o := by
    rw [Go.Sort.size_flatK]
    apply Classical.byContradiction
    intro hn
    have h1 : b = blk := by omega
    have h2 : off ≤ o := by omega
    have h3 : o < off + dk.size * 7 := by omega
    have hj : o - off < d.size * 7 := by omega
    have := (hH (o - off) (by rw [Go.Sort.size_flatK]; exact hj)).1
    rw [Go.Sort.get_flatK _ _ _ _ hj, show off + (o - off) = o by omega, ← h1, hc] at this
    have h4 : (encA Z d[(o - off) / 7]!).length = 7 := rfl
    have h5 : (o - off) % 7 < 7 := Nat.mod_lt _ (by omega)
    refine encA_no8 Z d[(o - off) / 7]! ((o - off) % 7) n ?_
    rw [this]
    show _ = some ((encA Z d[(o - off) / 7]!)[(o - off) % 7]!)
    rw [List.getElem!_eq_getElem?_getD, List.getElem?_eq_getElem (by rw [h4]; exact h5)]
    rfl
  unfold sortWorldK Go.Sort.putRowK
  rw [Go.Sort.cell?_grow _ _ _ (by rw [Go.Sort.size_putRow]; exact lt), Go.Sort.cell?_putRow_other _ _ _ _ _ _ hout]
  exact hc
theorem Rd.sort {Z : World} {blk off m : Nat} {d dk : Array (EA Z)} {os : Array Obj} (hH : Go.Sort.HoldsK (encA Z) 7 Z blk off d) (hs : dk.size = d.size) {x : Value} {bs : List Nat} (r : Rd Z x bs) : Rd (sortWorldK (encA Z) 7 Z blk off m dk os) x bs := by
  obtain ⟨h1, a, cap, rfl, h3, h4, h5, h6, h7⟩ := r
  refine ⟨h1, a, cap, rfl, h3, h4, h5, h6, ?_⟩
  rcases h7 with h7 | ⟨b, o, rfl, hc⟩
  · exact .inl h7
  · exact .inr ⟨b, o, rfl, fun i hi => cell_sort hH hs (hc i hi)⟩
theorem world_grow {W w' : World} (h : BelowD W.heap.size W w') : ∃ q os', w' = Go.Sort.grow (W.drewN q) os' := by
  refine ⟨w'.drawn - W.drawn, w'.heap.extract W.heap.size w'.heap.size, ?_⟩
  have hd := h.d
  have hsz := h.b.size
  have hh : w'.heap = W.heap ++ w'.heap.extract W.heap.size w'.heap.size := by
    apply Array.ext_getElem?
    intro i
    by_cases hi : i < W.heap.size
    · rw [Array.getElem?_append_left hi]
      exact h.b.block i hi
    · rw [Array.getElem?_append_right (by omega), Array.getElem?_extract]
      by_cases h2 : i < w'.heap.size
      · rw [if_pos (by omega), show W.heap.size + (i - W.heap.size) = i by omega]
      · rw [if_neg (by omega), Array.getElem?_eq_none (by omega)]
  have e1 := h.b.os
  have e2 := h.b.tape
  have e3 := h.b.output
  obtain ⟨hp, tp, dr, os, ou⟩ := w'
  simp only at *
  unfold Go.Sort.grow World.drewN
  simp only [World.mk.injEq]
  exact ⟨hh, e2, by omega, e1, e3⟩
theorem cmp_lays {Z : World} {blk off : Nat} {d : Array (EA Z)} (hH : Go.Sort.HoldsK (encA Z) 7 Z blk off d) : CmpLays Try.prog 48 #[] (encA Z) 7 (cfA Z) blk off d.size Z := by
  intro m os dk hs x y
  have e : (#[.agg (encA Z x).toArray, .agg (encA Z y).toArray] ++ #[] : Array Value) = #[.agg x.1.cells, .agg y.1.cells] := by simp [encA]
  rw [e]
  refine Calls.mono (compare_d ⟨x.2.1.sort hH hs, x.2.2.1.sort hH hs, x.2.2.2.sort hH hs⟩ ⟨y.2.1.sort hH hs, y.2.2.1.sort hH hs, y.2.2.2.sort hH hs⟩) ?_
  rintro r w' ⟨rfl, hb⟩
  exact ⟨rfl, world_grow hb⟩
end Go.Proofs.Ytemdhpjoakldhaa

namespace Go.Proofs.Ytemdhpjoakldhaa
open Go.RowKit
set_option linter.unusedVariables false

/-- One waits to be decided, or none. -/
def Sp.wl (s : Sp) : Nat := if s.waiting then 1 else 0
def Sp.rk (s : Sp) (n : Int) : Prop := 0 ≤ s.rank ∧ s.rank ≤ n
section
variable {fs : List (Int × Int)} {clock : Int}
theorem decide_wl (s : Sp) (e : En) : (decideS fs clock s e).2.waiting = s.waiting := by
  unfold decideS
  repeat' split
  all_goals rfl
theorem decide_rk {s : Sp} {n : Int} (h : s.rk n) (e : En) : (decideS fs clock s e).2.rk (n + 1) := by
  unfold decideS Sp.rk at *
  repeat' split
  all_goals (simp only; omega)
theorem resolve_len (s : Sp) (k : Int) : (resolveS fs clock s k).1.length = s.wl := by
  unfold resolveS Sp.wl
  split <;> rfl
theorem resolve_wl (s : Sp) (k : Int) : (resolveS fs clock s k).2.waiting = false := by
  unfold resolveS
  split
  · rw [decide_wl]
  · rename_i h
    simpa using h
theorem resolve_rk {s : Sp} {n : Int} (h : s.rk n) (k : Int) : (resolveS fs clock s k).2.rk (n + (resolveS fs clock s k).1.length) := by
  unfold resolveS
  split
  · exact decide_rk (s := { s with waiting := false }) h _
  · simpa using h
theorem stretch_wl (s : Sp) (e : En) : (stretchS s e).2.waiting = s.waiting := by unfold stretchS; split <;> rfl
theorem stretch_rk {s : Sp} {n : Int} (h : s.rk n) (e : En) : (stretchS s e).2.rk n := by unfold stretchS; split <;> exact h
theorem left_wl (s : Sp) (f c : Bool) : (leftS s f c).waiting = s.waiting := by unfold leftS; cases f <;> cases c <;> rfl
theorem left_rk {s : Sp} {n : Int} (h : s.rk n) (f c : Bool) : (leftS s f c).rk n := by
  unfold leftS Sp.rk at *
  cases f <;> cases c <;> simp <;> omega
theorem enter_len (s : Sp) (e : En) : (enterS fs clock s e).1.length + (enterS fs clock s e).2.wl = s.wl := by
  unfold enterS
  split
  · simp
  · have h1 := resolve_len (fs := fs) (clock := clock) s 3
    have h2 := resolve_wl (fs := fs) (clock := clock) s 3
    simp only [Sp.wl, left_wl, h2] at *
    simp [h1]
theorem enter_rk {s : Sp} {n : Int} (h : s.rk n) (e : En) : (enterS fs clock s e).2.rk (n + (enterS fs clock s e).1.length) := by
  unfold enterS
  split
  · simpa using h
  · exact left_rk (resolve_rk h 3) _ _
theorem enter_grp {s : Sp} {e : En} (h : sameGrp s e = true) : enterS fs clock s e = ([], s) := by unfold enterS; rw [if_pos h]
theorem enter_new {s : Sp} {e : En} (h : ¬ sameGrp s e = true) : (enterS fs clock s e).2.waiting = false := by
  unfold enterS
  rw [if_neg h]
  show (leftS _ _ _).waiting = false
  rw [left_wl, resolve_wl]
/-- A step tells as many as come, but for one that waits. -/
theorem step_len (s : Sp) (e : En) : (stepS fs clock s e).1.length + (stepS fs clock s e).2.wl = s.wl + 1 := by
  have h0 := enter_len (fs := fs) (clock := clock) s e
  unfold stepS
  split
  · have := stretch_wl (enterS fs clock s e).2 e
    simp only [Sp.wl, rememberS, this, List.length_append, List.length_cons, List.length_nil] at *
    omega
  · split
    · rename_i hg
      split
      · have h1 := resolve_len (fs := fs) (clock := clock) (enterS fs clock s e).2 2
        have h2 := resolve_wl (fs := fs) (clock := clock) (enterS fs clock s e).2 2
        simp only [Sp.wl, rememberS, h2, List.length_append, List.length_cons, List.length_nil] at *
        simp only [Bool.false_eq_true, if_false]
        omega
      · show ((enterS fs clock s e).1 ++ [_]).length + (enterS fs clock s e).2.wl = _
        rw [List.length_append, List.length_cons, List.length_nil]
        omega
    · rename_i hg
      have h3 := enter_new (fs := fs) (clock := clock) hg
      split
      · simp only [Sp.wl, rememberS, h3] at *
        simp only [Bool.false_eq_true, if_false, if_true] at *
        omega
      · have h4 := decide_wl (fs := fs) (clock := clock) (enterS fs clock s e).2 e
        simp only [Sp.wl, rememberS, h4, h3, List.length_append, List.length_cons, List.length_nil] at *
        omega
theorem rk_mono {s : Sp} {n m : Int} (h : s.rk n) (k : n ≤ m) : s.rk m := ⟨h.1, Int.le_trans h.2 k⟩
theorem step_rk {s : Sp} {n : Int} (h : s.rk n) (e : En) : (stepS fs clock s e).2.rk (n + (stepS fs clock s e).1.length) := by
  have h0 := enter_rk (fs := fs) (clock := clock) h e
  unfold stepS
  split
  · refine rk_mono (show Sp.rk (rememberS _ e) _ from stretch_rk h0 e) ?_
    simp only [List.length_append]
    omega
  · split
    · split
      · refine rk_mono (show Sp.rk (rememberS _ e) _ from resolve_rk h0 2) ?_
        simp only [List.length_append]
        omega
      · refine rk_mono (show Sp.rk (rememberS _ e) _ from h0) ?_
        simp only [List.length_append]
        omega
    · split
      · exact h0
      · refine rk_mono (show Sp.rk (rememberS _ e) _ from decide_rk h0 e) ?_
        simp only [List.length_append, List.length_cons, List.length_nil]
        omega
theorem step_begun (s : Sp) (e : En) : (stepS fs clock s e).2.begun = true := by
  unfold stepS
  repeat' split
  all_goals rfl
theorem walk_snoc (s : Sp) (l : List En) (e : En) : walkS fs clock s (l ++ [e]) = ((walkS fs clock s l).1 ++ (stepS fs clock (walkS fs clock s l).2 e).1, (stepS fs clock (walkS fs clock s l).2 e).2) := by
  induction l generalizing s with
  | nil => simp [walkS]
  | cons x l ih => simp only [List.cons_append, walkS, ih, List.append_assoc]
end
end Go.Proofs.Ytemdhpjoakldhaa
