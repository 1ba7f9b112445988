import Derived.Test.YthhkpkfpifllkaaGreatK12
import Derived.Shelf.SlSortCmp.WholeK
namespace Go.Proofs.YthhkpkfpifllkaaGreat
open Go.RowKit
set_option linter.unusedVariables false

set_option maxRecDepth 100000 in
set_option maxHeartbeats 1000000 in
theorem order_fns_d (w : World) : Calls Tryz.prog 111 #[] w fun r w' => r = .returned (.agg #[.func (.func 137) #[] #[], .func (.func 139) #[] #[], .func (.func 141) #[] #[], .func (.func 143) #[] #[], .func (.func 144) #[] #[], .func (.func 145) #[] #[], .func (.func 146) #[] #[], .func (.func 147) #[] #[]]) ∧ BelowD w.heap.size w w' := by
  have A1 := (BelowD.refl w.heap.size w).alloc (Nat.le_refl _) (.cells #[.func (.func 137) #[] #[], .func (.func 139) #[] #[], .func (.func 141) #[] #[], .func (.func 143) #[] #[], .func (.func 144) #[] #[], .func (.func 145) #[] #[], .func (.func 146) #[] #[], .func (.func 147) #[] #[]] 167)
  go_enter Tryz.func111, Tryz.ntmps111
  go_wp2
  go_returns
  exact ⟨rfl, A1⟩

set_option maxRecDepth 100000 in
set_option maxHeartbeats 8000000 in
theorem compare_d {a b : EntD} {w : World} (ha : EntD.Ok w a) (hb : EntD.Ok w b) :
    Calls Tryz.prog 81 #[.agg a.cells, .agg b.cells] w fun r w' => r = .returned (.int .i64 (compareS a b)) ∧ BelowD w.heap.size w w' := by
  have A1 := (BelowD.refl w.heap.size w).alloc (Nat.le_refl _) (.cells a.cells 84)
  have A2 := A1.alloc A1.size (.cells b.cells 84)
  have bxa0 := (EBox.new w a).later ((Below.refl (w.alloc (.cells a.cells 84)).heap.size (w.alloc (.cells a.cells 84))).alloc (Nat.le_refl _) (.cells b.cells 84))
  have bxb0 := EBox.new (w.alloc (.cells a.cells 84)) b
  rw [World.size_alloc] at bxb0
  have BXA0 : Hid (EBox _ w.heap.size a) := bxa0
  have BXB0 : Hid (EBox _ (w.heap.size + 1) b) := bxb0
  have HA : Hid (EntD.Ok w a) := ha
  have HB : Hid (EntD.Ok w b) := hb
  obtain ⟨va, hva⟩ : ∃ v, v = a.cells := ⟨_, rfl⟩
  clear A1 bxa0 bxb0 ha hb hva va
  go_enter Tryz.func81, Tryz.ntmps81
  go_wp2_with fail
  refine (order_fns_d _).mono ?_
  rintro e1 w1 ⟨rfl, hb1⟩
  have B1 := A2.trans (hb1.mono A2.size)
  have BXA1 := BXA0.out.later hb1.b
  have BXB1 := BXB0.out.later hb1.b
  clear A2 BXA0 BXB0 hb1
  go_wp2
  go_loopw [6, 7, 9] (fun f n i wr => ∃ t : Nat, t ≤ 8 ∧ i = .int .i64 (t : Int) ∧ (∀ j, j < t → (cmpsS a b).getD j 0 = 0) ∧ EBox wr w.heap.size a ∧ EBox wr (w.heap.size + 1) b ∧ BelowD w.heap.size w wr) (fun _ _ i _ => 8 - (intOf i).toNat)
  case atStart => exact ⟨0, by omega, rfl, fun j hj => by omega, BXA1, BXB1, B1⟩
  case round =>
    obtain ⟨t, ht8, rfl, hz, bxa, bxb, hb1⟩ := hrel
    have HZ : Hid (∀ j, j < t → (cmpsS a b).getD j 0 = 0) := hz
    have BXA : Hid (EBox wr w.heap.size a) := bxa
    have BXB : Hid (EBox wr (w.heap.size + 1) b) := bxb
    clear hz
    by_cases hlt : t < 8
    · obtain ⟨S, hS⟩ : ∃ S, S = (cmpsS a b).getD t 0 := ⟨_, rfl⟩
      have HS : Hid (S = (cmpsS a b).getD t 0) := hS
      clear hS
      have ca0 := bxa.vr
      have ca1 := bxa.fam
      have ca2 := bxa.vq
      have ca3 := bxa.ts
      have ca4 := bxa.seq
      have ca5 := bxa.kind
      have ca6 := bxa.vv
      have cb0 := bxb.vr
      have cb1 := bxb.fam
      have cb2 := bxb.vq
      have cb3 := bxb.ts
      have cb4 := bxb.seq
      have cb5 := bxb.kind
      have cb6 := bxb.vv
      rcases (show t = 0 ∨ t = 1 ∨ t = 2 ∨ t = 3 ∨ t = 4 ∨ t = 5 ∨ t = 6 ∨ t = 7 by omega) with rfl | rfl | rfl | rfl | rfl | rfl | rfl | rfl
      · have HC : Hid (∀ w2, BelowD w.heap.size w w2 → Calls Tryz.prog 137 #[.agg a.cells, .agg b.cells] w2 fun r w' => r = .returned (.int .i64 S) ∧ BelowD w2.heap.size w2 w') := fun w2 h2 => by rw [HS.out]; exact ord1_d (HA.out.later h2.b) (HB.out.later h2.b)
        have hidx : ∀ w, (Instr.index 167 (.agg #[.func (.func 137) #[] #[], .func (.func 139) #[] #[], .func (.func 141) #[] #[], .func (.func 143) #[] #[], .func (.func 144) #[] #[], .func (.func 145) #[] #[], .func (.func 146) #[] #[], .func (.func 147) #[] #[]]) (.int .i64 0)).run Tryz.prog w = .ok (.func (.func 137) #[] #[]) w := fun _ => by kernel_rfl
        by_cases hz : S = 0
        · have HZ2 : Hid (∀ j, j < 1 → (cmpsS a b).getD j 0 = 0) := fun j hj => by
            by_cases h : j < 0
            · exact HZ.out j h
            · obtain rfl : j = 0 := by omega
              rw [← HS.out]; exact hz
          subst hz
          have HC2 := HC.out wr hb1
          have HC3 : Hid (Calls Tryz.prog 137 #[.agg a.cells, .agg b.cells] wr fun r w' => r = .returned (.int .i64 0) ∧ BelowD wr.heap.size wr w') := HC2
          clear HC HC2 HS
          simp only [EntD.cells] at bxa bxb HC3
          go_wp2_with fail
          refine HC3.out.mono ?_
          rintro e2 w2 ⟨rfl, hb2⟩
          have B2 := hb1.trans (hb2.mono hb1.size)
          have bxa2 := BXA.out.later hb2.b
          have bxb2 := BXB.out.later hb2.b
          go_wp2
          go_roundw
          case rel => exact ⟨1, by omega, by go_num, HZ2.out, bxa2, bxb2, B2⟩
          case measure => simp [intOf]
        · have HR : Hid (compareS a b = S) := by unfold Hid compareS; rw [firstNZ_at _ 0 HZ.out (by rw [← HS.out]; exact hz), HS.out]
          have hz1 : (S != 0) = true := by simp; exact hz
          have HC2 := HC.out wr hb1
          have HC3 : Hid (Calls Tryz.prog 137 #[.agg a.cells, .agg b.cells] wr fun r w' => r = .returned (.int .i64 S) ∧ BelowD wr.heap.size wr w') := HC2
          clear HC HC2 HS
          simp only [EntD.cells] at bxa bxb HC3
          go_wp2_with fail
          refine HC3.out.mono ?_
          rintro e2 w2 ⟨rfl, hb2⟩
          have B2 := hb1.trans (hb2.mono hb1.size)
          go_wp2
          go_ret
          exact ⟨by rw [HR.out]; rfl, B2⟩
      · have HC : Hid (∀ w2, BelowD w.heap.size w w2 → Calls Tryz.prog 139 #[.agg a.cells, .agg b.cells] w2 fun r w' => r = .returned (.int .i64 S) ∧ BelowD w2.heap.size w2 w') := fun w2 h2 => by rw [HS.out]; exact ord2_d (HA.out.later h2.b) (HB.out.later h2.b)
        have hidx : ∀ w, (Instr.index 167 (.agg #[.func (.func 137) #[] #[], .func (.func 139) #[] #[], .func (.func 141) #[] #[], .func (.func 143) #[] #[], .func (.func 144) #[] #[], .func (.func 145) #[] #[], .func (.func 146) #[] #[], .func (.func 147) #[] #[]]) (.int .i64 1)).run Tryz.prog w = .ok (.func (.func 139) #[] #[]) w := fun _ => by kernel_rfl
        by_cases hz : S = 0
        · have HZ2 : Hid (∀ j, j < 2 → (cmpsS a b).getD j 0 = 0) := fun j hj => by
            by_cases h : j < 1
            · exact HZ.out j h
            · obtain rfl : j = 1 := by omega
              rw [← HS.out]; exact hz
          subst hz
          have HC2 := HC.out wr hb1
          have HC3 : Hid (Calls Tryz.prog 139 #[.agg a.cells, .agg b.cells] wr fun r w' => r = .returned (.int .i64 0) ∧ BelowD wr.heap.size wr w') := HC2
          clear HC HC2 HS
          simp only [EntD.cells] at bxa bxb HC3
          go_wp2_with fail
          refine HC3.out.mono ?_
          rintro e2 w2 ⟨rfl, hb2⟩
          have B2 := hb1.trans (hb2.mono hb1.size)
          have bxa2 := BXA.out.later hb2.b
          have bxb2 := BXB.out.later hb2.b
          go_wp2
          go_roundw
          case rel => exact ⟨2, by omega, by go_num, HZ2.out, bxa2, bxb2, B2⟩
          case measure => simp [intOf]
        · have HR : Hid (compareS a b = S) := by unfold Hid compareS; rw [firstNZ_at _ 1 HZ.out (by rw [← HS.out]; exact hz), HS.out]
          have hz1 : (S != 0) = true := by simp; exact hz
          have HC2 := HC.out wr hb1
          have HC3 : Hid (Calls Tryz.prog 139 #[.agg a.cells, .agg b.cells] wr fun r w' => r = .returned (.int .i64 S) ∧ BelowD wr.heap.size wr w') := HC2
          clear HC HC2 HS
          simp only [EntD.cells] at bxa bxb HC3
          go_wp2_with fail
          refine HC3.out.mono ?_
          rintro e2 w2 ⟨rfl, hb2⟩
          have B2 := hb1.trans (hb2.mono hb1.size)
          go_wp2
          go_ret
          exact ⟨by rw [HR.out]; rfl, B2⟩
      · have HC : Hid (∀ w2, BelowD w.heap.size w w2 → Calls Tryz.prog 141 #[.agg a.cells, .agg b.cells] w2 fun r w' => r = .returned (.int .i64 S) ∧ BelowD w2.heap.size w2 w') := fun w2 h2 => by rw [HS.out]; exact ord3_d (HA.out.later h2.b) (HB.out.later h2.b)
        have hidx : ∀ w, (Instr.index 167 (.agg #[.func (.func 137) #[] #[], .func (.func 139) #[] #[], .func (.func 141) #[] #[], .func (.func 143) #[] #[], .func (.func 144) #[] #[], .func (.func 145) #[] #[], .func (.func 146) #[] #[], .func (.func 147) #[] #[]]) (.int .i64 2)).run Tryz.prog w = .ok (.func (.func 141) #[] #[]) w := fun _ => by kernel_rfl
        by_cases hz : S = 0
        · have HZ2 : Hid (∀ j, j < 3 → (cmpsS a b).getD j 0 = 0) := fun j hj => by
            by_cases h : j < 2
            · exact HZ.out j h
            · obtain rfl : j = 2 := by omega
              rw [← HS.out]; exact hz
          subst hz
          have HC2 := HC.out wr hb1
          have HC3 : Hid (Calls Tryz.prog 141 #[.agg a.cells, .agg b.cells] wr fun r w' => r = .returned (.int .i64 0) ∧ BelowD wr.heap.size wr w') := HC2
          clear HC HC2 HS
          simp only [EntD.cells] at bxa bxb HC3
          go_wp2_with fail
          refine HC3.out.mono ?_
          rintro e2 w2 ⟨rfl, hb2⟩
          have B2 := hb1.trans (hb2.mono hb1.size)
          have bxa2 := BXA.out.later hb2.b
          have bxb2 := BXB.out.later hb2.b
          go_wp2
          go_roundw
          case rel => exact ⟨3, by omega, by go_num, HZ2.out, bxa2, bxb2, B2⟩
          case measure => simp [intOf]
        · have HR : Hid (compareS a b = S) := by unfold Hid compareS; rw [firstNZ_at _ 2 HZ.out (by rw [← HS.out]; exact hz), HS.out]
          have hz1 : (S != 0) = true := by simp; exact hz
          have HC2 := HC.out wr hb1
          have HC3 : Hid (Calls Tryz.prog 141 #[.agg a.cells, .agg b.cells] wr fun r w' => r = .returned (.int .i64 S) ∧ BelowD wr.heap.size wr w') := HC2
          clear HC HC2 HS
          simp only [EntD.cells] at bxa bxb HC3
          go_wp2_with fail
          refine HC3.out.mono ?_
          rintro e2 w2 ⟨rfl, hb2⟩
          have B2 := hb1.trans (hb2.mono hb1.size)
          go_wp2
          go_ret
          exact ⟨by rw [HR.out]; rfl, B2⟩
      · have HC : Hid (∀ w2, BelowD w.heap.size w w2 → Calls Tryz.prog 143 #[.agg a.cells, .agg b.cells] w2 fun r w' => r = .returned (.int .i64 S) ∧ BelowD w2.heap.size w2 w') := fun w2 h2 => by rw [HS.out]; exact ord4_d (HA.out.later h2.b) (HB.out.later h2.b)
        have hidx : ∀ w, (Instr.index 167 (.agg #[.func (.func 137) #[] #[], .func (.func 139) #[] #[], .func (.func 141) #[] #[], .func (.func 143) #[] #[], .func (.func 144) #[] #[], .func (.func 145) #[] #[], .func (.func 146) #[] #[], .func (.func 147) #[] #[]]) (.int .i64 3)).run Tryz.prog w = .ok (.func (.func 143) #[] #[]) w := fun _ => by kernel_rfl
        by_cases hz : S = 0
        · have HZ2 : Hid (∀ j, j < 4 → (cmpsS a b).getD j 0 = 0) := fun j hj => by
            by_cases h : j < 3
            · exact HZ.out j h
            · obtain rfl : j = 3 := by omega
              rw [← HS.out]; exact hz
          subst hz
          have HC2 := HC.out wr hb1
          have HC3 : Hid (Calls Tryz.prog 143 #[.agg a.cells, .agg b.cells] wr fun r w' => r = .returned (.int .i64 0) ∧ BelowD wr.heap.size wr w') := HC2
          clear HC HC2 HS
          simp only [EntD.cells] at bxa bxb HC3
          go_wp2_with fail
          refine HC3.out.mono ?_
          rintro e2 w2 ⟨rfl, hb2⟩
          have B2 := hb1.trans (hb2.mono hb1.size)
          have bxa2 := BXA.out.later hb2.b
          have bxb2 := BXB.out.later hb2.b
          go_wp2
          go_roundw
          case rel => exact ⟨4, by omega, by go_num, HZ2.out, bxa2, bxb2, B2⟩
          case measure => simp [intOf]
        · have HR : Hid (compareS a b = S) := by unfold Hid compareS; rw [firstNZ_at _ 3 HZ.out (by rw [← HS.out]; exact hz), HS.out]
          have hz1 : (S != 0) = true := by simp; exact hz
          have HC2 := HC.out wr hb1
          have HC3 : Hid (Calls Tryz.prog 143 #[.agg a.cells, .agg b.cells] wr fun r w' => r = .returned (.int .i64 S) ∧ BelowD wr.heap.size wr w') := HC2
          clear HC HC2 HS
          simp only [EntD.cells] at bxa bxb HC3
          go_wp2_with fail
          refine HC3.out.mono ?_
          rintro e2 w2 ⟨rfl, hb2⟩
          have B2 := hb1.trans (hb2.mono hb1.size)
          go_wp2
          go_ret
          exact ⟨by rw [HR.out]; rfl, B2⟩
      · have HC : Hid (∀ w2, BelowD w.heap.size w w2 → Calls Tryz.prog 144 #[.agg a.cells, .agg b.cells] w2 fun r w' => r = .returned (.int .i64 S) ∧ BelowD w2.heap.size w2 w') := fun w2 h2 => by rw [HS.out]; exact ord5_d (HA.out.later h2.b) (HB.out.later h2.b)
        have hidx : ∀ w, (Instr.index 167 (.agg #[.func (.func 137) #[] #[], .func (.func 139) #[] #[], .func (.func 141) #[] #[], .func (.func 143) #[] #[], .func (.func 144) #[] #[], .func (.func 145) #[] #[], .func (.func 146) #[] #[], .func (.func 147) #[] #[]]) (.int .i64 4)).run Tryz.prog w = .ok (.func (.func 144) #[] #[]) w := fun _ => by kernel_rfl
        by_cases hz : S = 0
        · have HZ2 : Hid (∀ j, j < 5 → (cmpsS a b).getD j 0 = 0) := fun j hj => by
            by_cases h : j < 4
            · exact HZ.out j h
            · obtain rfl : j = 4 := by omega
              rw [← HS.out]; exact hz
          subst hz
          have HC2 := HC.out wr hb1
          have HC3 : Hid (Calls Tryz.prog 144 #[.agg a.cells, .agg b.cells] wr fun r w' => r = .returned (.int .i64 0) ∧ BelowD wr.heap.size wr w') := HC2
          clear HC HC2 HS
          simp only [EntD.cells] at bxa bxb HC3
          go_wp2_with fail
          refine HC3.out.mono ?_
          rintro e2 w2 ⟨rfl, hb2⟩
          have B2 := hb1.trans (hb2.mono hb1.size)
          have bxa2 := BXA.out.later hb2.b
          have bxb2 := BXB.out.later hb2.b
          go_wp2
          go_roundw
          case rel => exact ⟨5, by omega, by go_num, HZ2.out, bxa2, bxb2, B2⟩
          case measure => simp [intOf]
        · have HR : Hid (compareS a b = S) := by unfold Hid compareS; rw [firstNZ_at _ 4 HZ.out (by rw [← HS.out]; exact hz), HS.out]
          have hz1 : (S != 0) = true := by simp; exact hz
          have HC2 := HC.out wr hb1
          have HC3 : Hid (Calls Tryz.prog 144 #[.agg a.cells, .agg b.cells] wr fun r w' => r = .returned (.int .i64 S) ∧ BelowD wr.heap.size wr w') := HC2
          clear HC HC2 HS
          simp only [EntD.cells] at bxa bxb HC3
          go_wp2_with fail
          refine HC3.out.mono ?_
          rintro e2 w2 ⟨rfl, hb2⟩
          have B2 := hb1.trans (hb2.mono hb1.size)
          go_wp2
          go_ret
          exact ⟨by rw [HR.out]; rfl, B2⟩
      · have HC : Hid (∀ w2, BelowD w.heap.size w w2 → Calls Tryz.prog 145 #[.agg a.cells, .agg b.cells] w2 fun r w' => r = .returned (.int .i64 S) ∧ BelowD w2.heap.size w2 w') := fun w2 h2 => by rw [HS.out]; exact ord6_d (HA.out.later h2.b) (HB.out.later h2.b)
        have hidx : ∀ w, (Instr.index 167 (.agg #[.func (.func 137) #[] #[], .func (.func 139) #[] #[], .func (.func 141) #[] #[], .func (.func 143) #[] #[], .func (.func 144) #[] #[], .func (.func 145) #[] #[], .func (.func 146) #[] #[], .func (.func 147) #[] #[]]) (.int .i64 5)).run Tryz.prog w = .ok (.func (.func 145) #[] #[]) w := fun _ => by kernel_rfl
        by_cases hz : S = 0
        · have HZ2 : Hid (∀ j, j < 6 → (cmpsS a b).getD j 0 = 0) := fun j hj => by
            by_cases h : j < 5
            · exact HZ.out j h
            · obtain rfl : j = 5 := by omega
              rw [← HS.out]; exact hz
          subst hz
          have HC2 := HC.out wr hb1
          have HC3 : Hid (Calls Tryz.prog 145 #[.agg a.cells, .agg b.cells] wr fun r w' => r = .returned (.int .i64 0) ∧ BelowD wr.heap.size wr w') := HC2
          clear HC HC2 HS
          simp only [EntD.cells] at bxa bxb HC3
          go_wp2_with fail
          refine HC3.out.mono ?_
          rintro e2 w2 ⟨rfl, hb2⟩
          have B2 := hb1.trans (hb2.mono hb1.size)
          have bxa2 := BXA.out.later hb2.b
          have bxb2 := BXB.out.later hb2.b
          go_wp2
          go_roundw
          case rel => exact ⟨6, by omega, by go_num, HZ2.out, bxa2, bxb2, B2⟩
          case measure => simp [intOf]
        · have HR : Hid (compareS a b = S) := by unfold Hid compareS; rw [firstNZ_at _ 5 HZ.out (by rw [← HS.out]; exact hz), HS.out]
          have hz1 : (S != 0) = true := by simp; exact hz
          have HC2 := HC.out wr hb1
          have HC3 : Hid (Calls Tryz.prog 145 #[.agg a.cells, .agg b.cells] wr fun r w' => r = .returned (.int .i64 S) ∧ BelowD wr.heap.size wr w') := HC2
          clear HC HC2 HS
          simp only [EntD.cells] at bxa bxb HC3
          go_wp2_with fail
          refine HC3.out.mono ?_
          rintro e2 w2 ⟨rfl, hb2⟩
          have B2 := hb1.trans (hb2.mono hb1.size)
          go_wp2
          go_ret
          exact ⟨by rw [HR.out]; rfl, B2⟩
      · have HC : Hid (∀ w2, BelowD w.heap.size w w2 → Calls Tryz.prog 146 #[.agg a.cells, .agg b.cells] w2 fun r w' => r = .returned (.int .i64 S) ∧ BelowD w2.heap.size w2 w') := fun w2 h2 => by rw [HS.out]; exact ord7_d (HA.out.later h2.b) (HB.out.later h2.b)
        have hidx : ∀ w, (Instr.index 167 (.agg #[.func (.func 137) #[] #[], .func (.func 139) #[] #[], .func (.func 141) #[] #[], .func (.func 143) #[] #[], .func (.func 144) #[] #[], .func (.func 145) #[] #[], .func (.func 146) #[] #[], .func (.func 147) #[] #[]]) (.int .i64 6)).run Tryz.prog w = .ok (.func (.func 146) #[] #[]) w := fun _ => by kernel_rfl
        by_cases hz : S = 0
        · have HZ2 : Hid (∀ j, j < 7 → (cmpsS a b).getD j 0 = 0) := fun j hj => by
            by_cases h : j < 6
            · exact HZ.out j h
            · obtain rfl : j = 6 := by omega
              rw [← HS.out]; exact hz
          subst hz
          have HC2 := HC.out wr hb1
          have HC3 : Hid (Calls Tryz.prog 146 #[.agg a.cells, .agg b.cells] wr fun r w' => r = .returned (.int .i64 0) ∧ BelowD wr.heap.size wr w') := HC2
          clear HC HC2 HS
          simp only [EntD.cells] at bxa bxb HC3
          go_wp2_with fail
          refine HC3.out.mono ?_
          rintro e2 w2 ⟨rfl, hb2⟩
          have B2 := hb1.trans (hb2.mono hb1.size)
          have bxa2 := BXA.out.later hb2.b
          have bxb2 := BXB.out.later hb2.b
          go_wp2
          go_roundw
          case rel => exact ⟨7, by omega, by go_num, HZ2.out, bxa2, bxb2, B2⟩
          case measure => simp [intOf]
        · have HR : Hid (compareS a b = S) := by unfold Hid compareS; rw [firstNZ_at _ 6 HZ.out (by rw [← HS.out]; exact hz), HS.out]
          have hz1 : (S != 0) = true := by simp; exact hz
          have HC2 := HC.out wr hb1
          have HC3 : Hid (Calls Tryz.prog 146 #[.agg a.cells, .agg b.cells] wr fun r w' => r = .returned (.int .i64 S) ∧ BelowD wr.heap.size wr w') := HC2
          clear HC HC2 HS
          simp only [EntD.cells] at bxa bxb HC3
          go_wp2_with fail
          refine HC3.out.mono ?_
          rintro e2 w2 ⟨rfl, hb2⟩
          have B2 := hb1.trans (hb2.mono hb1.size)
          go_wp2
          go_ret
          exact ⟨by rw [HR.out]; rfl, B2⟩
      · have HC : Hid (∀ w2, BelowD w.heap.size w w2 → Calls Tryz.prog 147 #[.agg a.cells, .agg b.cells] w2 fun r w' => r = .returned (.int .i64 S) ∧ BelowD w2.heap.size w2 w') := fun w2 h2 => by rw [HS.out]; exact ord8_d (HA.out.later h2.b) (HB.out.later h2.b)
        have hidx : ∀ w, (Instr.index 167 (.agg #[.func (.func 137) #[] #[], .func (.func 139) #[] #[], .func (.func 141) #[] #[], .func (.func 143) #[] #[], .func (.func 144) #[] #[], .func (.func 145) #[] #[], .func (.func 146) #[] #[], .func (.func 147) #[] #[]]) (.int .i64 7)).run Tryz.prog w = .ok (.func (.func 147) #[] #[]) w := fun _ => by kernel_rfl
        by_cases hz : S = 0
        · have HZ2 : Hid (∀ j, j < 8 → (cmpsS a b).getD j 0 = 0) := fun j hj => by
            by_cases h : j < 7
            · exact HZ.out j h
            · obtain rfl : j = 7 := by omega
              rw [← HS.out]; exact hz
          subst hz
          have HC2 := HC.out wr hb1
          have HC3 : Hid (Calls Tryz.prog 147 #[.agg a.cells, .agg b.cells] wr fun r w' => r = .returned (.int .i64 0) ∧ BelowD wr.heap.size wr w') := HC2
          clear HC HC2 HS
          simp only [EntD.cells] at bxa bxb HC3
          go_wp2_with fail
          refine HC3.out.mono ?_
          rintro e2 w2 ⟨rfl, hb2⟩
          have B2 := hb1.trans (hb2.mono hb1.size)
          have bxa2 := BXA.out.later hb2.b
          have bxb2 := BXB.out.later hb2.b
          go_wp2
          go_roundw
          case rel => exact ⟨8, by omega, by go_num, HZ2.out, bxa2, bxb2, B2⟩
          case measure => simp [intOf]
        · have HR : Hid (compareS a b = S) := by unfold Hid compareS; rw [firstNZ_at _ 7 HZ.out (by rw [← HS.out]; exact hz), HS.out]
          have hz1 : (S != 0) = true := by simp; exact hz
          have HC2 := HC.out wr hb1
          have HC3 : Hid (Calls Tryz.prog 147 #[.agg a.cells, .agg b.cells] wr fun r w' => r = .returned (.int .i64 S) ∧ BelowD wr.heap.size wr w') := HC2
          clear HC HC2 HS
          simp only [EntD.cells] at bxa bxb HC3
          go_wp2_with fail
          refine HC3.out.mono ?_
          rintro e2 w2 ⟨rfl, hb2⟩
          have B2 := hb1.trans (hb2.mono hb1.size)
          go_wp2
          go_ret
          exact ⟨by rw [HR.out]; rfl, B2⟩
    · have hge : (8 : Int) ≤ (t : Int) := by omega
      have HR : Hid (compareS a b = 0) := by unfold Hid compareS; exact firstNZ_none _ (fun j hj => HZ.out j (by have : (cmpsS a b).length = 8 := rfl; omega))
      clear hlt
      go_wp2
      go_ret
      exact ⟨by rw [HR.out]; rfl, hb1⟩

end Go.Proofs.YthhkpkfpifllkaaGreat


namespace Go.Proofs.YthhkpkfpifllkaaGreat
open Go.RowKit
set_option linter.unusedVariables false

def laidSort : Go.Shelf.Ren := ⟨fun | 6 => 80 | 14 => 109 | 15 => 110 | 20 => 127 | 21 => 128 | 22 => 129 | 23 => 130 | 24 => 131 | 25 => 132 | 26 => 133 | 27 => 134 | 28 => 135 | 29 => 136 | 46 => 149 | 47 => 150 | 48 => 151 | 49 => 152 | 50 => 153 | 57 => 160 | n => n, fun | 0 => 0 | 3 => 3 | 4 => 4 | 5 => 5 | 9 => 9 | 22 => 28 | 24 => 84 | 25 => 134 | 39 => 165 | 45 => 177 | 46 => 178 | 50 => 117 | 53 => 184 | 55 => 186 | 66 => 188 | 70 => 192 | 76 => 197 | 77 => 54 | n => n, fun n => n⟩
set_option maxRecDepth 100000 in
theorem laysSort : SlLaysF0.n6 Tryz.prog laidSort := {
  mixed := by kernel_rfl,
  f6 := ⟨ "slices.SortFunc[[]strata/api.Entry,strata/api.Entry]", by decide, Tryz.func80.trans (congrArg some (by kernel_rfl))⟩,
  f14 := ⟨ "slices.pdqsortCmpFunc[strata/api.Entry]", by decide, Tryz.func109.trans (congrArg some (by kernel_rfl))⟩,
  f15 := Tryz.func110.trans (congrArg some (by kernel_rfl)),
  f20 := ⟨ "slices.insertionSortCmpFunc[strata/api.Entry]", by decide, Tryz.func127.trans (congrArg some (by kernel_rfl))⟩,
  f21 := ⟨ "slices.heapSortCmpFunc[strata/api.Entry]", by decide, Tryz.func128.trans (congrArg some (by kernel_rfl))⟩,
  f22 := ⟨ "slices.breakPatternsCmpFunc[strata/api.Entry]", by decide, Tryz.func129.trans (congrArg some (by kernel_rfl))⟩,
  f23 := ⟨ "slices.choosePivotCmpFunc[strata/api.Entry]", by decide, Tryz.func130.trans (congrArg some (by kernel_rfl))⟩,
  f24 := ⟨ "slices.reverseRangeCmpFunc[strata/api.Entry]", by decide, Tryz.func131.trans (congrArg some (by kernel_rfl))⟩,
  f25 := ⟨ "slices.partialInsertionSortCmpFunc[strata/api.Entry]", by decide, Tryz.func132.trans (congrArg some (by kernel_rfl))⟩,
  f26 := ⟨ "slices.partitionEqualCmpFunc[strata/api.Entry]", by decide, Tryz.func133.trans (congrArg some (by kernel_rfl))⟩,
  f27 := ⟨ "slices.partitionCmpFunc[strata/api.Entry]", by decide, Tryz.func134.trans (congrArg some (by kernel_rfl))⟩,
  f28 := Tryz.func135.trans (congrArg some (by kernel_rfl)),
  f29 := Tryz.func136.trans (congrArg some (by kernel_rfl)),
  f46 := ⟨ "slices.siftDownCmpFunc[strata/api.Entry]", by decide, Tryz.func149.trans (congrArg some (by kernel_rfl))⟩,
  f47 := Tryz.func150.trans (congrArg some (by kernel_rfl)),
  f48 := Tryz.func151.trans (congrArg some (by kernel_rfl)),
  f49 := ⟨ "slices.medianAdjacentCmpFunc[strata/api.Entry]", by decide, Tryz.func152.trans (congrArg some (by kernel_rfl))⟩,
  f50 := ⟨ "slices.medianCmpFunc[strata/api.Entry]", by decide, Tryz.func153.trans (congrArg some (by kernel_rfl))⟩,
  f57 := ⟨ "slices.order2CmpFunc[strata/api.Entry]", by decide, Tryz.func160.trans (congrArg some (by kernel_rfl))⟩,
  t0 := Tryz.underlying0,
  a0 := Tryz.isAgg0,
  z0 := Tryz.sizeOf0,
  v0 := Tryz.zeroValue0,
  t3 := Tryz.underlying3,
  a3 := Tryz.isAgg3,
  z3 := Tryz.sizeOf3,
  v3 := Tryz.zeroValue3,
  t4 := Tryz.underlying4,
  a4 := Tryz.isAgg4,
  z4 := Tryz.sizeOf4,
  v4 := Tryz.zeroValue4,
  t5 := Tryz.underlying5,
  a5 := Tryz.isAgg5,
  z5 := Tryz.sizeOf5,
  v5 := Tryz.zeroValue5,
  t9 := Tryz.underlying9,
  a9 := Tryz.isAgg9,
  z9 := Tryz.sizeOf9,
  v9 := Tryz.zeroValue9,
  t22 := Tryz.underlying28,
  a22 := Tryz.isAgg28,
  z22 := Tryz.sizeOf28,
  v22 := Tryz.zeroValue28,
  t25 := Tryz.underlying134,
  a25 := Tryz.isAgg134,
  z25 := Tryz.sizeOf134,
  v25 := Tryz.zeroValue134,
  t39 := Tryz.underlying165,
  a39 := Tryz.isAgg165,
  z39 := Tryz.sizeOf165,
  v39 := Tryz.zeroValue165,
  t45 := Tryz.underlying177,
  a45 := Tryz.isAgg177,
  z45 := Tryz.sizeOf177,
  v45 := Tryz.zeroValue177,
  t46 := Tryz.underlying178,
  a46 := Tryz.isAgg178,
  z46 := Tryz.sizeOf178,
  v46 := Tryz.zeroValue178,
  t50 := Tryz.underlying117,
  a50 := Tryz.isAgg117,
  z50 := Tryz.sizeOf117,
  v50 := Tryz.zeroValue117,
  t53 := Tryz.underlying184,
  a53 := Tryz.isAgg184,
  z53 := Tryz.sizeOf184,
  v53 := Tryz.zeroValue184,
  t55 := Tryz.underlying186,
  a55 := Tryz.isAgg186,
  z55 := Tryz.sizeOf186,
  v55 := Tryz.zeroValue186,
  t66 := Tryz.underlying188,
  a66 := Tryz.isAgg188,
  z66 := Tryz.sizeOf188,
  v66 := Tryz.zeroValue188,
  t70 := Tryz.underlying192,
  a70 := Tryz.isAgg192,
  z70 := Tryz.sizeOf192,
  v70 := Tryz.zeroValue192,
  t76 := Tryz.underlying197,
  a76 := Tryz.isAgg197,
  z76 := Tryz.sizeOf197,
  v76 := Tryz.zeroValue197,
  t77 := Tryz.underlying54,
  a77 := Tryz.isAgg54,
  z77 := Tryz.sizeOf54,
  v77 := Tryz.zeroValue54 }
end Go.Proofs.YthhkpkfpifllkaaGreat

namespace Go.Proofs.YthhkpkfpifllkaaGreat
open Go.RowKit
set_option linter.unusedVariables false

abbrev EA (Z : World) : Type := { x : EntD // EntD.Ok Z x }
def eaZ (Z : World) : EA Z := ⟨⟨.slice none 0 0, 0, .slice none 0 0, 0, 0, 0, .slice none 0 0, [], [], []⟩, by
  have : Rd Z (.slice none 0 0) [] := ⟨(fun x hx => by cases hx), none, 0, rfl, Nat.le_refl _, Nat.zero_le _, Nat.zero_le _, .inl rfl, .inl rfl⟩
  exact ⟨this, this, this⟩⟩
instance (Z : World) : Inhabited (EA Z) := ⟨eaZ Z⟩
def encA (Z : World) (x : EA Z) : List Value := x.1.cells.toList
def cfA (Z : World) (x y : EA Z) : Int := compareS x.1 y.1
theorem swo_cfA (Z : World) : Go.Sort.SWO (ltOf (cfA Z)) := by
  refine ⟨fun x => ?_, fun x y z h k => ?_, fun x y z h k => ?_⟩
  · simp [ltOf, cfA, compareS_self]
  · have h1 : compareS x.1 y.1 < 0 := of_decide_eq_true h
    have k1 : compareS y.1 z.1 < 0 := of_decide_eq_true k
    have := compareS_tri x.1 y.1 z.1
    unfold Tri at this
    exact decide_eq_true (p := compareS x.1 z.1 < 0) (by omega)
  · have h1 : ¬ compareS x.1 y.1 < 0 := of_decide_eq_false h
    have k1 : ¬ compareS y.1 z.1 < 0 := of_decide_eq_false k
    have := compareS_tri x.1 y.1 z.1
    unfold Tri at this
    exact decide_eq_false (p := compareS x.1 z.1 < 0) (by omega)
theorem encA_one (Z : World) (x : EA Z) : ∀ v ∈ encA Z x, v.oneCell' = true := by
  obtain ⟨⟨vr, fam, vq, ts, seq, kind, vv, row, qual, val⟩, r1, r2, r3⟩ := x
  obtain ⟨_, a1, c1, e1, _⟩ := r1
  obtain ⟨_, a2, c2, e2, _⟩ := r2
  obtain ⟨_, a3, c3, e3, _⟩ := r3
  simp only at e1 e2 e3
  subst e1 e2 e3
  intro v hv
  simp only [encA, EntD.cells, List.mem_cons, List.not_mem_nil, or_false] at hv
  rcases hv with rfl | rfl | rfl | rfl | rfl | rfl | rfl <;> rfl
theorem encA_no8 (Z : World) (x : EA Z) (j : Nat) (n : Int) : (encA Z x)[j]? ≠ some (.int .u8 n) := by
  intro h
  have hv := List.mem_of_getElem? h
  obtain ⟨⟨vr, fam, vq, ts, seq, kind, vv, row, qual, val⟩, r1, r2, r3⟩ := x
  obtain ⟨_, a1, c1, e1, _⟩ := r1
  obtain ⟨_, a2, c2, e2, _⟩ := r2
  obtain ⟨_, a3, c3, e3, _⟩ := r3
  simp only at e1 e2 e3
  subst e1 e2 e3
  simp [encA, EntD.cells] at hv
theorem cell_sort {Z : World} {blk off m : Nat} {d dk : Array (EA Z)} {os : Array Obj} (hH : Go.Sort.HoldsK (encA Z) 7 Z blk off d) (hs : dk.size = d.size) {b o : Nat} {n : Int} (hc : Z.cell? ⟨b, o, none⟩ = some (.int .u8 n)) : (sortWorldK (encA Z) 7 Z blk off m dk os).cell? ⟨b, o, none⟩ = some (.int .u8 n) := by
  have lt := World.block_lt_of_cell? Z _ hc
  have hout : b ≠ blk ∨ o < off ∨ off + (Go.Sort.flatK (encA Z) 7 dk).size ≤ o := by
    rw [Go.Sort.size_flatK]
    apply Classical.byContradiction
    intro hn
    have h1 : b = blk := by omega
    have h2 : off ≤ o := by omega
    have h3 : o < off + dk.size * 7 := by omega
    have hj : o - off < d.size * 7 := by omega
    have := (hH (o - off) (by rw [Go.Sort.size_flatK]; exact hj)).1
    rw [Go.Sort.get_flatK _ _ _ _ hj, show off + (o - off) = o by omega, ← h1, hc] at this
    have h4 : (encA Z d[(o - off) / 7]!).length = 7 := rfl
    have h5 : (o - off) % 7 < 7 := Nat.mod_lt _ (by omega)
    refine encA_no8 Z d[(o - off) / 7]! ((o - off) % 7) n ?_
    rw [this]
    show _ = some ((encA Z d[(o - off) / 7]!)[(o - off) % 7]!)
    rw [List.getElem!_eq_getElem?_getD, List.getElem?_eq_getElem (by rw [h4]; exact h5)]
    rfl
  unfold sortWorldK Go.Sort.putRowK
  rw [Go.Sort.cell?_grow _ _ _ (by rw [Go.Sort.size_putRow]; exact lt), Go.Sort.cell?_putRow_other _ _ _ _ _ _ hout]
  exact hc
theorem Rd.sort {Z : World} {blk off m : Nat} {d dk : Array (EA Z)} {os : Array Obj} (hH : Go.Sort.HoldsK (encA Z) 7 Z blk off d) (hs : dk.size = d.size) {x : Value} {bs : List Nat} (r : Rd Z x bs) : Rd (sortWorldK (encA Z) 7 Z blk off m dk os) x bs := by
  obtain ⟨h1, a, cap, rfl, h3, h4, h5, h6, h7⟩ := r
  refine ⟨h1, a, cap, rfl, h3, h4, h5, h6, ?_⟩
  rcases h7 with h7 | ⟨b, o, rfl, hc⟩
  · exact .inl h7
  · exact .inr ⟨b, o, rfl, fun i hi => cell_sort hH hs (hc i hi)⟩
theorem world_grow {W w' : World} (h : BelowD W.heap.size W w') : ∃ q os', w' = Go.Sort.grow (W.drewN q) os' := by
  refine ⟨w'.drawn - W.drawn, w'.heap.extract W.heap.size w'.heap.size, ?_⟩
  have hd := h.d
  have hsz := h.b.size
  have hh : w'.heap = W.heap ++ w'.heap.extract W.heap.size w'.heap.size := by
    apply Array.ext_getElem?
    intro i
    by_cases hi : i < W.heap.size
    · rw [Array.getElem?_append_left hi]
      exact h.b.block i hi
    · rw [Array.getElem?_append_right (by omega), Array.getElem?_extract]
      by_cases h2 : i < w'.heap.size
      · rw [if_pos (by omega), show W.heap.size + (i - W.heap.size) = i by omega]
      · rw [if_neg (by omega), Array.getElem?_eq_none (by omega)]
  have e1 := h.b.os
  have e2 := h.b.tape
  have e3 := h.b.output
  obtain ⟨hp, tp, dr, os, ou⟩ := w'
  simp only at *
  unfold Go.Sort.grow World.drewN
  simp only [World.mk.injEq]
  exact ⟨hh, e2, by omega, e1, e3⟩
theorem cmp_lays {Z : World} {blk off : Nat} {d : Array (EA Z)} (hH : Go.Sort.HoldsK (encA Z) 7 Z blk off d) : CmpLays Tryz.prog 81 #[] (encA Z) 7 (cfA Z) blk off d.size Z := by
  intro m os dk hs x y
  have e : (#[.agg (encA Z x).toArray, .agg (encA Z y).toArray] ++ #[] : Array Value) = #[.agg x.1.cells, .agg y.1.cells] := by simp [encA]
  rw [e]
  refine Calls.mono (compare_d ⟨x.2.1.sort hH hs, x.2.2.1.sort hH hs, x.2.2.2.sort hH hs⟩ ⟨y.2.1.sort hH hs, y.2.2.1.sort hH hs, y.2.2.2.sort hH hs⟩) ?_
  rintro r w' ⟨rfl, hb⟩
  exact ⟨rfl, world_grow hb⟩
end Go.Proofs.YthhkpkfpifllkaaGreat

namespace Go.Proofs.YthhkpkfpifllkaaGreat
open Go.RowKit
set_option linter.unusedVariables false

theorem flat_evals {Z : World} (d : Array (EA Z)) : Go.Sort.flatK (encA Z) 7 d = (evals (d.toList.map Subtype.val)).toArray := by
  refine Go.Sort.ext_get! (by simp [evals_len]) fun t ht => ?_
  rw [Go.Sort.size_flatK] at ht
  rw [Go.Sort.get_flatK _ _ _ _ ht]
  have h1 : t / 7 < d.size := by omega
  have h5 : t % 7 < 7 := Nat.mod_lt _ (by omega)
  have e1 : (d.toList.map Subtype.val)[t / 7]? = some (d[t / 7]!).1 := by
    rw [List.getElem?_map, Array.getElem?_toList, Array.getElem?_eq_getElem h1, getElem!_pos d _ h1]
    rfl
  have e2 : (d[t / 7]!).1.cells.toList[t % 7]? = some ((encA Z d[t / 7]!)[t % 7]!) := by
    show (encA Z d[t / 7]!)[t % 7]? = _
    rw [List.getElem!_eq_getElem?_getD, List.getElem?_eq_getElem (by exact h5)]
    rfl
  have := evals_at e1 e2
  rw [show t / 7 * 7 + t % 7 = t by omega] at this
  have hl := (List.getElem?_eq_some_iff.1 this)
  rw [getElem!_pos (evals (d.toList.map Subtype.val)).toArray t (by rw [List.size_toArray]; exact hl.1)]
  exact hl.2.symm
theorem heap_sort {Z : World} {g n : Nat} {d' : Array (EA Z)} {os : Array Obj} {cur : Array Value} {ty : TypeId} {fr : Nat × Nat} (hg : Z.heap[g]? = some (.cells cur ty fr)) : (sortWorldK (encA Z) 7 Z g 0 n d' os).heap[g]? = some (.cells (Go.Sort.putCells id 0 (Go.Sort.flatK (encA Z) 7 d') cur) ty fr) := by
  have lt : g < Z.heap.size := (Array.getElem?_eq_some_iff.1 hg).1
  unfold sortWorldK Go.Sort.putRowK Go.Sort.putRow
  rw [Go.Sort.heap_grow_old _ _ (by show g < (Z.heap.modify g _).size; rw [Array.size_modify]; exact lt)]
  show (Z.heap.modify g _)[g]? = _
  rw [Array.getElem?_modify, if_pos rfl, hg]
  rfl
theorem heap_sort_ne {Z : World} {g n k : Nat} {d' : Array (EA Z)} {os : Array Obj} (hk : k < Z.heap.size) (hne : k ≠ g) : (sortWorldK (encA Z) 7 Z g 0 n d' os).heap[k]? = Z.heap[k]? := by
  unfold sortWorldK Go.Sort.putRowK Go.Sort.putRow
  rw [Go.Sort.heap_grow_old _ _ (by show k < (Z.heap.modify g _).size; rw [Array.size_modify]; exact hk)]
  show (Z.heap.modify g _)[k]? = _
  rw [Array.getElem?_modify, if_neg (by omega)]
theorem putCells_take {F cur : Array Value} (h : F.size ≤ cur.size) : (Go.Sort.putCells id 0 F cur).toList.take F.size = F.toList := by
  apply List.ext_getElem?
  intro i
  by_cases hi : i < F.size
  · rw [List.getElem?_take_of_lt hi, Array.getElem?_toList, Array.getElem?_toList]
    unfold Go.Sort.putCells
    rw [Array.getElem?_mapIdx, Array.getElem?_eq_getElem (by omega : i < cur.size), Option.map_some, if_pos ⟨by omega, by omega⟩, Nat.sub_zero, Array.getElem?_eq_getElem hi, getElem!_pos F i hi]
    rfl
  · rw [List.getElem?_eq_none (by simp; omega), List.getElem?_eq_none (by simp; omega)]
def toA (Z : World) (xs : List EntD) (h : ∀ x ∈ xs, EntD.Ok Z x) : Array (EA Z) := (xs.attach.map fun x => (⟨x.1, h x.1 x.2⟩ : EA Z)).toArray
theorem toA_val {Z : World} {xs : List EntD} (h : ∀ x ∈ xs, EntD.Ok Z x) : (toA Z xs h).toList.map Subtype.val = xs := by
  unfold toA
  rw [List.map_map]
  exact List.attach_map_subtype_val xs
theorem toA_size {Z : World} {xs : List EntD} (h : ∀ x ∈ xs, EntD.Ok Z x) : (toA Z xs h).size = xs.length := by simp [toA]
theorem holdsA {Z : World} {g : Nat} {xs : List EntD} {cur : Array Value} {ty : TypeId} (h : ∀ x ∈ xs, EntD.Ok Z x) (hg : Z.heap[g]? = some (.cells cur ty (0, 0))) (hc : cur.toList.take (xs.length * 7) = evals xs) : Go.Sort.HoldsK (encA Z) 7 Z g 0 (toA Z xs h) := by
  unfold Go.Sort.HoldsK
  rw [flat_evals, toA_val]
  intro j hj
  rw [List.size_toArray, evals_len] at hj
  refine ⟨?_, ?_⟩
  · have e : cur.toList[j]? = (evals xs)[j]? := by rw [← hc, List.getElem?_take_of_lt hj]
    have hl : j < (evals xs).length := by rw [evals_len]; exact hj
    rw [List.getElem?_eq_getElem hl, Array.getElem?_toList] at e
    rw [Nat.zero_add, getElem!_pos _ j (by rw [List.size_toArray]; exact hl)]
    simp [World.cell?, hg, e]
  · simp [World.frozen?, hg]
theorem sort_holds (hnone : ∀ (c' : Nat) (Z : World), Calls Tryz.prog 80 #[.slice none 0 c', .func (.func 81) #[] #[]] Z fun r Z' => r = .returned (.tuple #[]) ∧ Z' = Z) : SortP := by
  intro B Z a' c' xs hok hlen hB hrow
  rcases hrow.2 with ⟨hv, h0⟩ | ⟨g, cap, cur, hv, hBg, hg, hnc, hcm, hcs, htk⟩
  · have hx : xs = [] := List.eq_nil_of_length_eq_zero h0
    subst hx
    simp only [Value.slice.injEq, List.length_nil] at hv
    obtain ⟨rfl, _, rfl⟩ := hv
    refine Calls.mono (hnone 0 Z) ?_
    rintro r Z' ⟨rfl, rfl⟩
    exact ⟨rfl, [], List.Perm.nil, List.Pairwise.nil, hrow, ⟨rfl, rfl, rfl, Nat.le_refl _, fun _ _ _ => rfl⟩⟩
  · simp only [Value.slice.injEq] at hv
    obtain ⟨rfl, _, rfl⟩ := hv
    have hH := holdsA hok hg htk
    have hsz := toA_size hok
    have lt : g < Z.heap.size := (Array.getElem?_eq_some_iff.1 hg).1
    have key := AnyQ.slices_SortFunc (P := Tryz.prog) (ρ := laidSort) laysSort 7 (fun w => Tryz.isAgg84 w) (fun w => Tryz.sizeOf84 w) (encA Z) (fun x => rfl) (encA_one Z) (cfA Z) (swo_cfA Z) 81 #[] g 0 c' (toA Z xs hok) Z (enters_of Tryz.func81 (by kernel_rfl) rfl) (cmp_lays hH) hH lt (by rw [hsz]; omega)
    rw [hsz] at key
    refine Calls.mono key ?_
    rintro r Z' ⟨rfl, d', n, os, hp, hso, rfl⟩
    obtain ⟨p1, p2, p3⟩ := hp
    have hd' : d'.size = xs.length := by rw [p1, hsz]
    have x1 : d'.extract 0 xs.length = d' := by rw [← hd']; exact Array.extract_size
    have x2 : (toA Z xs hok).extract 0 xs.length = toA Z xs hok := by rw [← hsz]; exact Array.extract_size
    rw [x1, x2] at p3
    refine ⟨rfl, d'.toList.map Subtype.val, ?_, ?_, ?_, ?_⟩
    · have := p3.map Subtype.val
      rwa [toA_val] at this
    · rw [List.pairwise_map, List.pairwise_iff_getElem]
      intro i j hi hj hij
      rw [Array.length_toList] at hi hj
      have := hso i j (Nat.zero_le _) hij (by omega)
      rw [getElem!_pos d' i hi, getElem!_pos d' j hj] at this
      have h1 : ¬ compareS d'[j].1 d'[i].1 < 0 := of_decide_eq_false this
      have h2 := compareS_swap d'[j].1 d'[i].1
      show compareS d'.toList[i].1 d'.toList[j].1 ≤ 0
      rw [Array.getElem_toList, Array.getElem_toList]
      omega
    · refine ⟨by rw [evals_len, List.length_map, Array.length_toList, hd'], .inr ⟨g, c', _, rfl, hBg, heap_sort hg, hnc, hcm, ?_, ?_⟩⟩
      · unfold Go.Sort.putCells
        rw [Array.size_mapIdx, hcs]
      · have hF : (Go.Sort.flatK (encA Z) 7 d').size = xs.length * 7 := by rw [Go.Sort.size_flatK, hd']
        rw [← hF, putCells_take (by rw [hF, hcs]; exact Nat.mul_le_mul_right 7 hnc), flat_evals]
    · refine ⟨rfl, rfl, rfl, ?_, fun k hk hne => heap_sort_ne hk (fun e => hne (by rw [e]; rfl))⟩
      unfold sortWorldK
      rw [Go.Sort.size_grow]
      show Z.heap.size ≤ (Go.Sort.putRowK _ _ _ _ _ _).heap.size + _
      unfold Go.Sort.putRowK
      rw [Go.Sort.size_putRow]
      exact Nat.le_add_right _ _
end Go.Proofs.YthhkpkfpifllkaaGreat

namespace Go.Proofs.YthhkpkfpifllkaaGreat
open Go.RowKit
set_option linter.unusedVariables false

set_option maxRecDepth 100000 in
set_option maxHeartbeats 4000000 in
theorem fover_any (SP : SortP) {W W0 : World} {wb rb B cap fc : Nat} {a fa : Option Addr} {fs : List FamD} {clock low : Int} {major : Bool} {l : List EntD} (hs : SBx W rb (.pointer (some ⟨wb, 0, none⟩)) (.slice none 0 0) (fBc major low ⟨0, 0, 0, 0, 0⟩) 107) (hb : WBx W wb (.slice fa fs.length fc) clock (.func (.func 70) #[.pointer (some ⟨rb, 0, none⟩)] #[]) spZ) (hf : OwnF W B (.slice fa fs.length fc) fs.length fs) (hl8 : fs.length ≤ 8) (hne : wb ≠ rb) (hfs : ∀ f ∈ fs, 0 ≤ f.tl ∧ f.tl ≤ 1099511627776)
    (h0 : RdL3 W0 a cap l) (hB : Below W0.heap.size W0 W) (hw0 : W0.heap.size ≤ wb) (hr0 : W0.heap.size ≤ rb) (hl : l.length ≤ 1353245080300) :
    Calls Tryz.prog 54 #[.pointer (some ⟨rb, 0, none⟩), .slice a l.length cap] W fun r W' => Below W0.heap.size W0 W' ∧ (inOrderE (check3S fs.length) l ≠ 0 → r = .returned (.tuple #[.slice none 0 0, .int .i64 (inOrderE (check3S fs.length) l)])) ∧ (inOrderE (check3S fs.length) l = 0 → ∃ (xs ys zs : List EntD) (v : Value) (O : Nat → Prop), onceS l = some xs ∧ ys.Perm xs ∧ (ys.Pairwise fun x y => compareS x y ≤ 0) ∧ r = .returned (.tuple #[v, .int .i64 0]) ∧ Rw W' W0.heap.size v zs O ∧ zs.map EntD.dat = outS major low (verdictsS (mt fs) clock (ys.map EntD.dat))) := by
  have HO := Lib.hid (over_all SP (T := TF [] rb W0.heap.size (.pointer (some ⟨wb, 0, none⟩)) major low) (filter_teller [] rb W0.heap.size (.pointer (some ⟨wb, 0, none⟩)) major low) hb hf hl8 (TF.start hs hB.size) hne ⟨_, _, hs, by decide, by decide⟩ hfs h0 hB hw0 hr0 hl)
  obtain ⟨E, hE⟩ : ∃ E, E = inOrderE (check3S fs.length) l := ⟨_, rfl⟩
  rw [← hE] at HO ⊢
  have HSb := Lib.hid hs
  have HB := Lib.hid hB
  have c0 := hs.c00
  obtain ⟨n, hn⟩ : ∃ n, n = l.length := ⟨_, rfl⟩
  rw [← hn] at HO ⊢
  have HW := Lib.hid (And.intro hw0 hr0)
  clear hs hb hf hl8 hne hfs h0 hB hl hE hn hw0 hr0
  go_enter Tryz.func54, Tryz.ntmps54
  go_wp2_with fail
  refine Calls.mono HO.out ?_
  rintro z W1 ⟨rfl, h1, h2⟩
  clear HO c0
  by_cases hz : E = 0
  · obtain ⟨xs, ys, W2, O, k1, k2, k3, k4, k5⟩ := h2 hz
    obtain ⟨zs, ov, Or, sb, rw1, hno, hsub, hx⟩ := k5.tell.st
    obtain ⟨av, cv, rfl⟩ := rows_form3 rw1.row
    have HH := Lib.hid (handOut_any sb)
    have HK := Lib.hid (And.intro k1 (And.intro k2 (And.intro k3 (And.intro k4 (And.intro k5 (And.intro rw1 (And.intro hno (And.intro hsub hx))))))))
    subst hz
    clear h1 h2 k1 k2 k3 k4 k5 sb rw1 hno hsub hx
    go_wp2_with fail
    refine Calls.mono HH.out ?_
    rintro z2 X2 ⟨rfl, sb2, gr2⟩
    have HG := Lib.hid gr2
    clear sb2 gr2 HH
    go_wp2
    go_ret2
    obtain ⟨k1, k2, k3, k4, k5, rw1, hno, hsub, hx⟩ := HK.out
    obtain ⟨hw0, hr0⟩ := HW.out
    have gr := HG.out
    have b := HB.out
    have szW : W0.heap.size ≤ W2.heap.size := Nat.le_trans b.size k4.size
    refine ⟨⟨gr.os.trans (k5.os.trans (k4.os.trans b.os)), gr.tape.trans (k5.tape.trans (k4.tape.trans b.tape)), gr.output.trans (k5.output.trans (k4.output.trans b.output)), Nat.le_trans szW (Nat.le_trans k5.fr.1 gr.size), fun i hi => ?_⟩, xs, k1, ys, k2, k3, zs, .slice av zs.length cv, rfl, ⟨Or, rw1.keep (fun i hi => gr.block i (k5.tell.lt i (hsub i hi)) (fun z => by cases z; exact hno hi))⟩, hx⟩
    rw [gr.block i (Nat.lt_of_lt_of_le hi (Nat.le_trans szW k5.fr.1)) (fun z => by cases z; omega), k5.fr.2 i (Nat.lt_of_lt_of_le hi szW) (by omega) (by omega) (fun z => z), k4.block i (Nat.lt_of_lt_of_le hi b.size)]
    exact b.block i hi
  · have b1 := h1 hz
    have HH := Lib.hid (handOut_any (HSb.out.later b1))
    have HB1 := Lib.hid b1
    have HZ := Lib.hid hz
    clear h1 h2 b1 hz
    go_wp2_with fail
    refine Calls.mono HH.out ?_
    rintro z2 X2 ⟨rfl, sb2, gr2⟩
    have HG := Lib.hid gr2
    clear sb2 gr2 HH
    go_wp2
    go_ret2
    obtain ⟨hw0, hr0⟩ := HW.out
    have gr := HG.out
    have b := HB.out
    have b1 := HB1.out
    refine ⟨⟨gr.os.trans (b1.os.trans b.os), gr.tape.trans (b1.tape.trans b.tape), gr.output.trans (b1.output.trans b.output), Nat.le_trans b.size (Nat.le_trans b1.size gr.size), fun i hi => ?_⟩, fun _ => rfl, fun z => absurd z HZ.out⟩
    rw [gr.block i (Nat.lt_of_lt_of_le hi (Nat.le_trans b.size b1.size)) (fun z => by cases z; omega), b1.block i (Nat.lt_of_lt_of_le hi b.size)]
    exact b.block i hi
def squashE (C : Nat) (fs : List FamD) (clock low : Int) (l : List EntD) : Int := if boundsS C [clock, low] ≠ 0 then boundsS C [clock, low] else inOrderE (check3S fs.length) l

set_option maxRecDepth 100000 in
set_option maxHeartbeats 4000000 in
theorem squash_any (SP : SortP) {W : World} {cap fc : Nat} {a fa : Option Addr} {fs : List FamD} {l : List EntD} (hr : RdF W (.slice fa fs.length fc) fs) (hn : fa = none → fc = 0) (C : Nat) (hC : (C = 0 ↔ SchemaOk fs) ∧ (C = 0 ∨ C = 28)) (clock low : Int) (major : Bool) (h0 : RdL3 W a cap l) (hl : l.length ≤ 1353245080300) :
    Calls Tryz.prog 23 #[.agg #[.slice fa fs.length fc], .int .i64 clock, .bool major, .int .i64 low, .slice a l.length cap] W fun r W' => Below W.heap.size W W' ∧ (squashE C fs clock low l ≠ 0 → r = .returned (.tuple #[.slice none 0 0, .int .i64 (squashE C fs clock low l)])) ∧ (squashE C fs clock low l = 0 → ∃ (xs ys zs : List EntD) (v : Value) (O : Nat → Prop), onceS l = some xs ∧ ys.Perm xs ∧ (ys.Pairwise fun x y => compareS x y ≤ 0) ∧ r = .returned (.tuple #[v, .int .i64 0]) ∧ Rw W' W.heap.size v zs O ∧ zs.map EntD.dat = outS major low (verdictsS (mt fs) clock (ys.map EntD.dat))) := by
  have HF : Hid (∀ Z, Below W.heap.size W Z → Calls Tryz.prog 31 #[.agg #[.slice fa fs.length fc], .int .i64 clock, .bool major, .int .i64 low] Z _) := fun Z b => newFilter_any (hr.later b) hn C hC clock low major
  obtain ⟨E, hE⟩ : ∃ E, E = squashE C fs clock low l := ⟨_, rfl⟩
  obtain ⟨R, hR⟩ : ∃ R, R = boundsS C [clock, low] := ⟨_, rfl⟩
  have HE : Hid (E = if R ≠ 0 then R else inOrderE (check3S fs.length) l) := by unfold Hid; rw [hE, hR]; rfl
  rw [← hE]
  have HOk : Hid (R = 0 → fs.length ≤ 8 ∧ ∀ f ∈ fs, 0 ≤ f.tl ∧ f.tl ≤ 1099511627776) := fun z => by
    have hs := hC.1.1 (bounds_ok (hR.symm.trans z)).1
    refine ⟨hs.1.2, fun f hf => ?_⟩
    obtain ⟨i, hi⟩ := List.getElem?_of_mem hf
    exact (hs.2 i f hi).1.2.2
  simp only [← hR] at HF
  have HA := Lib.hid ((Below.refl W.heap.size W).alloc (Nat.le_refl _) (.cells #[.slice fa fs.length fc] 27))
  have H0 := Lib.hid h0
  have HL := Lib.hid hl
  obtain ⟨n, hn2⟩ : ∃ n, n = l.length := ⟨_, rfl⟩
  rw [← hn2]
  have HN := Lib.hid hn2
  obtain ⟨k, hk⟩ : ∃ k, k = fs.length := ⟨_, rfl⟩
  rw [← hk] at HF HA ⊢
  have HK := Lib.hid hk
  clear hr hn hC h0 hl hE hR hn2 hk
  go_enter Tryz.func23, Tryz.ntmps23
  go_wp2_with fail
  refine Calls.mono (HF.out _ HA.out) ?_
  rintro z W1 ⟨b1, h1, h2⟩
  have B1 := HA.out.trans (b1.mono HA.out.size)
  have HB1 := Lib.hid B1
  by_cases hz : R = 0
  · obtain ⟨fb, wb, a', c', rfl, hfb, hwb, hne, sb, wx, of⟩ := h2 hz
    obtain ⟨h8, hfs⟩ := HOk.out hz
    have l1 : W.heap.size ≤ (W.alloc (.cells #[.slice fa k fc] 27)).heap.size := HA.out.size
    have HEq : Hid (E = inOrderE (check3S fs.length) l) := by unfold Hid; rw [HE.out, if_neg (by simpa using hz)]
    have HV := Lib.hid (fover_any SP sb (by rw [HK.out] at wx; exact wx) (by rw [HK.out] at of; exact of) h8 (Ne.symm hne) hfs H0.out B1 (Nat.le_trans l1 hwb) (Nat.le_trans l1 hfb) HL.out)
    rw [← HEq.out, ← HN.out] at HV
    subst hz
    clear h1 h2 b1 B1 sb wx of hfb hwb hne hfs h8 HF HOk l1
    go_wp2_with fail
    refine Calls.mono HV.out ?_
    rintro z2 W2 ⟨q1, q2, q3⟩
    by_cases hz : E = 0
    · obtain ⟨xs, ys, zs, v, O, k1, k2, k3, rfl, k5, k6⟩ := q3 hz
      have HQ := Lib.hid (And.intro q1 (And.intro hz (And.intro k1 (And.intro k2 (And.intro k3 (And.intro k5 k6))))))
      clear q1 q2 q3 hz k1 k2 k3 k5 k6 HV
      go_wp2
      go_ret2
      obtain ⟨q1, hz, k1, k2, k3, k5, k6⟩ := HQ.out
      exact ⟨q1, fun z => absurd hz z, fun _ => ⟨xs, ys, zs, v, O, k1, k2, k3, rfl, k5, k6⟩⟩
    · have hz2 := q2 hz
      subst hz2
      have HQ := Lib.hid (And.intro q1 hz)
      clear q1 q2 q3 hz HV
      go_wp2
      go_ret2
      exact ⟨HQ.out.1, fun _ => rfl, fun z => absurd z HQ.out.2⟩
  · have hz2 := h1 hz
    subst hz2
    have b0 : (R != 0) = true := by simp [hz]
    have HEq : Hid (E = R ∧ R ≠ 0) := ⟨by rw [HE.out, if_pos hz], hz⟩
    clear h1 h2 b1 B1 hz HF HOk
    go_wp2
    go_ret2
    exact ⟨HB1.out, fun _ => by rw [HEq.out.1]; rfl, fun z => absurd (HEq.out.1.symm.trans z) HEq.out.2⟩
end Go.Proofs.YthhkpkfpifllkaaGreat

namespace Go.Proofs.YthhkpkfpifllkaaGreat
open Go.RowKit
set_option linter.unusedVariables false

set_option maxRecDepth 100000 in
set_option maxHeartbeats 4000000 in
theorem rover_any (SP : SortP) {W W0 : World} {wb rb B cap fc : Nat} {a fa : Option Addr} {fs : List FamD} {clock low nv : Int} {l : List EntD} (hs : SBx W rb (.pointer (some ⟨wb, 0, none⟩)) (.slice none 0 0) (rBc low nv 0) 103) (hb : WBx W wb (.slice fa fs.length fc) clock (.func (.func 71) #[.pointer (some ⟨rb, 0, none⟩)] #[]) spZ) (hf : OwnF W B (.slice fa fs.length fc) fs.length fs) (hl8 : fs.length ≤ 8) (hne : wb ≠ rb) (hfs : ∀ f ∈ fs, 0 ≤ f.tl ∧ f.tl ≤ 1099511627776)
    (h0 : RdL3 W0 a cap l) (hB : Below W0.heap.size W0 W) (hw0 : W0.heap.size ≤ wb) (hr0 : W0.heap.size ≤ rb) (hl : l.length ≤ 1353245080300) :
    Calls Tryz.prog 54 #[.pointer (some ⟨rb, 0, none⟩), .slice a l.length cap] W fun r W' => Below W0.heap.size W0 W' ∧ (inOrderE (check3S fs.length) l ≠ 0 → r = .returned (.tuple #[.slice none 0 0, .int .i64 (inOrderE (check3S fs.length) l)])) ∧ (inOrderE (check3S fs.length) l = 0 → ∃ (xs ys zs : List EntD) (v : Value) (O : Nat → Prop), onceS l = some xs ∧ ys.Perm xs ∧ (ys.Pairwise fun x y => compareS x y ≤ 0) ∧ r = .returned (.tuple #[v, .int .i64 0]) ∧ Rw W' W0.heap.size v zs O ∧ zs.map EntD.dat = (showS low nv (verdictsS (mt fs) clock (ys.map EntD.dat))).2) := by
  have HO := Lib.hid (over_all SP (T := TR [] rb W0.heap.size (some ⟨wb, 0, none⟩) low nv) (reader_teller [] rb W0.heap.size (some ⟨wb, 0, none⟩) low nv) hb hf hl8 (TR.start hs hB.size) hne ⟨_, _, hs, by decide, by decide⟩ hfs h0 hB hw0 hr0 hl)
  obtain ⟨E, hE⟩ : ∃ E, E = inOrderE (check3S fs.length) l := ⟨_, rfl⟩
  rw [← hE] at HO ⊢
  have HSb := Lib.hid hs
  have HB := Lib.hid hB
  have c0 := hs.c00
  obtain ⟨n, hn⟩ : ∃ n, n = l.length := ⟨_, rfl⟩
  rw [← hn] at HO ⊢
  have HW := Lib.hid (And.intro hw0 hr0)
  clear hs hb hf hl8 hne hfs h0 hB hl hE hn hw0 hr0
  go_enter Tryz.func54, Tryz.ntmps54
  go_wp2_with fail
  refine Calls.mono HO.out ?_
  rintro z W1 ⟨rfl, h1, h2⟩
  clear HO c0
  by_cases hz : E = 0
  · obtain ⟨xs, ys, W2, O, k1, k2, k3, k4, k5⟩ := h2 hz
    obtain ⟨zs, ov, Or, sb, rw1, hno, hsub, hx⟩ := k5.tell.st
    obtain ⟨av, cv, rfl⟩ := rows_form3 rw1.row
    have HH := Lib.hid (handOut_any sb)
    have HK := Lib.hid (And.intro k1 (And.intro k2 (And.intro k3 (And.intro k4 (And.intro k5 (And.intro rw1 (And.intro hno (And.intro hsub hx))))))))
    subst hz
    clear h1 h2 k1 k2 k3 k4 k5 sb rw1 hno hsub hx
    go_wp2_with fail
    refine Calls.mono HH.out ?_
    rintro z2 X2 ⟨rfl, sb2, gr2⟩
    have HG := Lib.hid gr2
    clear sb2 gr2 HH
    go_wp2
    go_ret2
    obtain ⟨k1, k2, k3, k4, k5, rw1, hno, hsub, hx⟩ := HK.out
    obtain ⟨hw0, hr0⟩ := HW.out
    have gr := HG.out
    have b := HB.out
    have szW : W0.heap.size ≤ W2.heap.size := Nat.le_trans b.size k4.size
    refine ⟨⟨gr.os.trans (k5.os.trans (k4.os.trans b.os)), gr.tape.trans (k5.tape.trans (k4.tape.trans b.tape)), gr.output.trans (k5.output.trans (k4.output.trans b.output)), Nat.le_trans szW (Nat.le_trans k5.fr.1 gr.size), fun i hi => ?_⟩, xs, k1, ys, k2, k3, zs, .slice av zs.length cv, rfl, ⟨Or, rw1.keep (fun i hi => gr.block i (k5.tell.lt i (hsub i hi)) (fun z => by cases z; exact hno hi))⟩, hx⟩
    rw [gr.block i (Nat.lt_of_lt_of_le hi (Nat.le_trans szW k5.fr.1)) (fun z => by cases z; omega), k5.fr.2 i (Nat.lt_of_lt_of_le hi szW) (by omega) (by omega) (fun z => z), k4.block i (Nat.lt_of_lt_of_le hi b.size)]
    exact b.block i hi
  · have b1 := h1 hz
    have HH := Lib.hid (handOut_any (HSb.out.later b1))
    have HB1 := Lib.hid b1
    have HZ := Lib.hid hz
    clear h1 h2 b1 hz
    go_wp2_with fail
    refine Calls.mono HH.out ?_
    rintro z2 X2 ⟨rfl, sb2, gr2⟩
    have HG := Lib.hid gr2
    clear sb2 gr2 HH
    go_wp2
    go_ret2
    obtain ⟨hw0, hr0⟩ := HW.out
    have gr := HG.out
    have b := HB.out
    have b1 := HB1.out
    refine ⟨⟨gr.os.trans (b1.os.trans b.os), gr.tape.trans (b1.tape.trans b.tape), gr.output.trans (b1.output.trans b.output), Nat.le_trans b.size (Nat.le_trans b1.size gr.size), fun i hi => ?_⟩, fun _ => rfl, fun z => absurd z HZ.out⟩
    rw [gr.block i (Nat.lt_of_lt_of_le hi (Nat.le_trans b.size b1.size)) (fun z => by cases z; omega), b1.block i (Nat.lt_of_lt_of_le hi b.size)]
    exact b.block i hi
theorem reader_ok {C : Nat} {clock low nv : Int} (h : readerS C clock low nv = 0) : boundsS C [clock, low] = 0 ∧ 1 ≤ nv ∧ nv ≤ 16 := by
  unfold readerS at h
  by_cases hb : boundsS C [clock, low] = 0
  · rw [if_neg (by simpa using hb)] at h
    by_cases hv : nv < 1 ∨ 16 < nv
    · rw [if_pos hv] at h; cases h
    · exact ⟨hb, by omega, by omega⟩
  · rw [if_pos hb] at h
    exact absurd h hb
def readE (C : Nat) (fs : List FamD) (clock low nv : Int) (l : List EntD) : Int := if readerS C clock low nv ≠ 0 then readerS C clock low nv else inOrderE (check3S fs.length) l

set_option maxRecDepth 100000 in
set_option maxHeartbeats 4000000 in
theorem read_any (SP : SortP) {W : World} {cap fc : Nat} {a fa : Option Addr} {fs : List FamD} {l : List EntD} (hr : RdF W (.slice fa fs.length fc) fs) (hn : fa = none → fc = 0) (C : Nat) (hC : (C = 0 ↔ SchemaOk fs) ∧ (C = 0 ∨ C = 28)) (clock low nv : Int) (h0 : RdL3 W a cap l) (hl : l.length ≤ 1353245080300) :
    Calls Tryz.prog 21 #[.agg #[.slice fa fs.length fc], .int .i64 clock, .int .i64 low, .int .i64 nv, .slice a l.length cap] W fun r W' => Below W.heap.size W W' ∧ (readE C fs clock low nv l ≠ 0 → r = .returned (.tuple #[.slice none 0 0, .int .i64 (readE C fs clock low nv l)])) ∧ (readE C fs clock low nv l = 0 → ∃ (xs ys zs : List EntD) (v : Value) (O : Nat → Prop), onceS l = some xs ∧ ys.Perm xs ∧ (ys.Pairwise fun x y => compareS x y ≤ 0) ∧ r = .returned (.tuple #[v, .int .i64 0]) ∧ Rw W' W.heap.size v zs O ∧ zs.map EntD.dat = (showS low nv (verdictsS (mt fs) clock (ys.map EntD.dat))).2) := by
  have HF : Hid (∀ Z, Below W.heap.size W Z → Calls Tryz.prog 32 #[.agg #[.slice fa fs.length fc], .int .i64 clock, .int .i64 low, .int .i64 nv] Z _) := fun Z b => newReader_any (hr.later b) hn C hC clock low nv
  obtain ⟨E, hE⟩ : ∃ E, E = readE C fs clock low nv l := ⟨_, rfl⟩
  obtain ⟨R, hR⟩ : ∃ R, R = readerS C clock low nv := ⟨_, rfl⟩
  have HE : Hid (E = if R ≠ 0 then R else inOrderE (check3S fs.length) l) := by unfold Hid; rw [hE, hR]; rfl
  rw [← hE]
  have HOk : Hid (R = 0 → fs.length ≤ 8 ∧ ∀ f ∈ fs, 0 ≤ f.tl ∧ f.tl ≤ 1099511627776) := fun z => by
    have hs := hC.1.1 (bounds_ok (reader_ok (hR.symm.trans z)).1).1
    refine ⟨hs.1.2, fun f hf => ?_⟩
    obtain ⟨i, hi⟩ := List.getElem?_of_mem hf
    exact (hs.2 i f hi).1.2.2
  simp only [← hR] at HF
  have HA := Lib.hid ((Below.refl W.heap.size W).alloc (Nat.le_refl _) (.cells #[.slice fa fs.length fc] 27))
  have H0 := Lib.hid h0
  have HL := Lib.hid hl
  obtain ⟨n, hn2⟩ : ∃ n, n = l.length := ⟨_, rfl⟩
  rw [← hn2]
  have HN := Lib.hid hn2
  obtain ⟨k, hk⟩ : ∃ k, k = fs.length := ⟨_, rfl⟩
  rw [← hk] at HF HA ⊢
  have HK := Lib.hid hk
  clear hr hn hC h0 hl hE hR hn2 hk
  go_enter Tryz.func21, Tryz.ntmps21
  go_wp2_with fail
  refine Calls.mono (HF.out _ HA.out) ?_
  rintro z W1 ⟨b1, h1, h2⟩
  have B1 := HA.out.trans (b1.mono HA.out.size)
  have HB1 := Lib.hid B1
  by_cases hz : R = 0
  · obtain ⟨fb, wb, a', c', rfl, hfb, hwb, hne, sb, wx, of⟩ := h2 hz
    obtain ⟨h8, hfs⟩ := HOk.out hz
    have l1 : W.heap.size ≤ (W.alloc (.cells #[.slice fa k fc] 27)).heap.size := HA.out.size
    have HEq : Hid (E = inOrderE (check3S fs.length) l) := by unfold Hid; rw [HE.out, if_neg (by simpa using hz)]
    have HV := Lib.hid (rover_any SP sb (by rw [HK.out] at wx; exact wx) (by rw [HK.out] at of; exact of) h8 (Ne.symm hne) hfs H0.out B1 (Nat.le_trans l1 hwb) (Nat.le_trans l1 hfb) HL.out)
    rw [← HEq.out, ← HN.out] at HV
    subst hz
    clear h1 h2 b1 B1 sb wx of hfb hwb hne hfs h8 HF HOk l1
    go_wp2_with fail
    refine Calls.mono HV.out ?_
    rintro z2 W2 ⟨q1, q2, q3⟩
    by_cases hz : E = 0
    · obtain ⟨xs, ys, zs, v, O, k1, k2, k3, rfl, k5, k6⟩ := q3 hz
      have HQ := Lib.hid (And.intro q1 (And.intro hz (And.intro k1 (And.intro k2 (And.intro k3 (And.intro k5 k6))))))
      clear q1 q2 q3 hz k1 k2 k3 k5 k6 HV
      go_wp2
      go_ret2
      obtain ⟨q1, hz, k1, k2, k3, k5, k6⟩ := HQ.out
      exact ⟨q1, fun z => absurd hz z, fun _ => ⟨xs, ys, zs, v, O, k1, k2, k3, rfl, k5, k6⟩⟩
    · have hz2 := q2 hz
      subst hz2
      have HQ := Lib.hid (And.intro q1 hz)
      clear q1 q2 q3 hz HV
      go_wp2
      go_ret2
      exact ⟨HQ.out.1, fun _ => rfl, fun z => absurd z HQ.out.2⟩
  · have hz2 := h1 hz
    subst hz2
    have b0 : (R != 0) = true := by simp [hz]
    have HEq : Hid (E = R ∧ R ≠ 0) := ⟨by rw [HE.out, if_pos hz], hz⟩
    clear h1 h2 b1 B1 hz HF HOk
    go_wp2
    go_ret2
    exact ⟨HB1.out, fun _ => by rw [HEq.out.1]; rfl, fun z => absurd (HEq.out.1.symm.trans z) HEq.out.2⟩
end Go.Proofs.YthhkpkfpifllkaaGreat
