import Derived.Test.YthhkpkfpifllkaaGreatK09
import Derived.Shelf.SlSortCmp.WholeK
namespace Go.Proofs.YthhkpkfpifllkaaGreat
open Go.RowKit
set_option linter.unusedVariables false

set_option maxRecDepth 100000 in
set_option maxHeartbeats 1000000 in
theorem order_fns_d (w : World) : Calls Tryz.prog 111 #[] w fun r w' => r = .returned (.agg #[.func (.func 137) #[] #[], .func (.func 139) #[] #[], .func (.func 141) #[] #[], .func (.func 143) #[] #[], .func (.func 144) #[] #[], .func (.func 145) #[] #[], .func (.func 146) #[] #[], .func (.func 147) #[] #[]]) ∧ BelowD w.heap.size w w' := by
  have A1 := (BelowD.refl w.heap.size w).alloc (Nat.le_refl _) (.cells #[.func (.func 137) #[] #[], .func (.func 139) #[] #[], .func (.func 141) #[] #[], .func (.func 143) #[] #[], .func (.func 144) #[] #[], .func (.func 145) #[] #[], .func (.func 146) #[] #[], .func (.func 147) #[] #[]] 167)
  go_enter Tryz.func111, Tryz.ntmps111
  go_wp2
  go_returns
  exact ⟨rfl, A1⟩

set_option maxRecDepth 100000 in
set_option maxHeartbeats 8000000 in
theorem compare_d {a b : EntD} {w : World} (ha : EntD.Ok w a) (hb : EntD.Ok w b) :
    Calls Tryz.prog 81 #[.agg a.cells, .agg b.cells] w fun r w' => r = .returned (.int .i64 (compareS a b)) ∧ BelowD w.heap.size w w' := by
  have A1 := (BelowD.refl w.heap.size w).alloc (Nat.le_refl _) (.cells a.cells 84)
  have A2 := A1.alloc A1.size (.cells b.cells 84)
  have bxa0 := (EBox.new w a).later ((Below.refl (w.alloc (.cells a.cells 84)).heap.size (w.alloc (.cells a.cells 84))).alloc (Nat.le_refl _) (.cells b.cells 84))
  have bxb0 := EBox.new (w.alloc (.cells a.cells 84)) b
  rw [World.size_alloc] at bxb0
  have BXA0 : Hid (EBox _ w.heap.size a) := bxa0
  have BXB0 : Hid (EBox _ (w.heap.size + 1) b) := bxb0
  have HA : Hid (EntD.Ok w a) := ha
  have HB : Hid (EntD.Ok w b) := hb
  obtain ⟨va, hva⟩ : ∃ v, v = a.cells := ⟨_, rfl⟩
  clear A1 bxa0 bxb0 ha hb hva va
  go_enter Tryz.func81, Tryz.ntmps81
  go_wp2_with fail
  refine (order_fns_d _).mono ?_
  rintro e1 w1 ⟨rfl, hb1⟩
  have B1 := A2.trans (hb1.mono A2.size)
  have BXA1 := BXA0.out.later hb1.b
  have BXB1 := BXB0.out.later hb1.b
  clear A2 BXA0 BXB0 hb1
  go_wp2
  go_loopw [6, 7, 9] (fun f n i wr => ∃ t : Nat, t ≤ 8 ∧ i = .int .i64 (t : Int) ∧ (∀ j, j < t → (cmpsS a b).getD j 0 = 0) ∧ EBox wr w.heap.size a ∧ EBox wr (w.heap.size + 1) b ∧ BelowD w.heap.size w wr) (fun _ _ i _ => 8 - (intOf i).toNat)
  case atStart => exact ⟨0, by omega, rfl, fun j hj => by omega, BXA1, BXB1, B1⟩
  case round =>
    obtain ⟨t, ht8, rfl, hz, bxa, bxb, hb1⟩ := hrel
    have HZ : Hid (∀ j, j < t → (cmpsS a b).getD j 0 = 0) := hz
    have BXA : Hid (EBox wr w.heap.size a) := bxa
    have BXB : Hid (EBox wr (w.heap.size + 1) b) := bxb
    clear hz
    by_cases hlt : t < 8
    · obtain ⟨S, hS⟩ : ∃ S, S = (cmpsS a b).getD t 0 := ⟨_, rfl⟩
      have HS : Hid (S = (cmpsS a b).getD t 0) := hS
      clear hS
      have ca0 := bxa.vr
      have ca1 := bxa.fam
      have ca2 := bxa.vq
      have ca3 := bxa.ts
      have ca4 := bxa.seq
      have ca5 := bxa.kind
      have ca6 := bxa.vv
      have cb0 := bxb.vr
      have cb1 := bxb.fam
      have cb2 := bxb.vq
      have cb3 := bxb.ts
      have cb4 := bxb.seq
      have cb5 := bxb.kind
      have cb6 := bxb.vv
      rcases (show t = 0 ∨ t = 1 ∨ t = 2 ∨ t = 3 ∨ t = 4 ∨ t = 5 ∨ t = 6 ∨ t = 7 by omega) with rfl | rfl | rfl | rfl | rfl | rfl | rfl | rfl
      · have HC : Hid (∀ w2, BelowD w.heap.size w w2 → Calls Tryz.prog 137 #[.agg a.cells, .agg b.cells] w2 fun r w' => r = .returned (.int .i64 S) ∧ BelowD w2.heap.size w2 w') := fun w2 h2 => by rw [HS.out]; exact ord1_d (HA.out.later h2.b) (HB.out.later h2.b)
        have hidx : ∀ w, (Instr.index 167 (.agg #[.func (.func 137) #[] #[], .func (.func 139) #[] #[], .func (.func 141) #[] #[], .func (.func 143) #[] #[], .func (.func 144) #[] #[], .func (.func 145) #[] #[], .func (.func 146) #[] #[], .func (.func 147) #[] #[]]) (.int .i64 0)).run Tryz.prog w = .ok (.func (.func 137) #[] #[]) w := fun _ => by kernel_rfl
        by_cases hz : S = 0
        · have HZ2 : Hid (∀ j, j < 1 → (cmpsS a b).getD j 0 = 0) := fun j hj => by
            by_cases h : j < 0
            · exact HZ.out j h
            · obtain rfl : j = 0 := by omega
              rw [← HS.out]; exact hz
          subst hz
          have HC2 := HC.out wr hb1
          have HC3 : Hid (Calls Tryz.prog 137 #[.agg a.cells, .agg b.cells] wr fun r w' => r = .returned (.int .i64 0) ∧ BelowD wr.heap.size wr w') := HC2
          clear HC HC2 HS
          simp only [EntD.cells] at bxa bxb HC3
          go_wp2_with fail
          refine HC3.out.mono ?_
          rintro e2 w2 ⟨rfl, hb2⟩
          have B2 := hb1.trans (hb2.mono hb1.size)
          have bxa2 := BXA.out.later hb2.b
          have bxb2 := BXB.out.later hb2.b
          go_wp2
          go_roundw
          case rel => exact ⟨1, by omega, by go_num, HZ2.out, bxa2, bxb2, B2⟩
          case measure => simp [intOf]
        · have HR : Hid (compareS a b = S) := by unfold Hid compareS; rw [firstNZ_at _ 0 HZ.out (by rw [← HS.out]; exact hz), HS.out]
          have hz1 : (S != 0) = true := by simp; exact hz
          have HC2 := HC.out wr hb1
          have HC3 : Hid (Calls Tryz.prog 137 #[.agg a.cells, .agg b.cells] wr fun r w' => r = .returned (.int .i64 S) ∧ BelowD wr.heap.size wr w') := HC2
          clear HC HC2 HS
          simp only [EntD.cells] at bxa bxb HC3
          go_wp2_with fail
          refine HC3.out.mono ?_
          rintro e2 w2 ⟨rfl, hb2⟩
          have B2 := hb1.trans (hb2.mono hb1.size)
          go_wp2
          go_ret
          exact ⟨by rw [HR.out]; rfl, B2⟩
      · have HC : Hid (∀ w2, BelowD w.heap.size w w2 → Calls Tryz.prog 139 #[.agg a.cells, .agg b.cells] w2 fun r w' => r = .returned (.int .i64 S) ∧ BelowD w2.heap.size w2 w') := fun w2 h2 => by rw [HS.out]; exact ord2_d (HA.out.later h2.b) (HB.out.later h2.b)
        have hidx : ∀ w, (Instr.index 167 (.agg #[.func (.func 137) #[] #[], .func (.func 139) #[] #[], .func (.func 141) #[] #[], .func (.func 143) #[] #[], .func (.func 144) #[] #[], .func (.func 145) #[] #[], .func (.func 146) #[] #[], .func (.func 147) #[] #[]]) (.int .i64 1)).run Tryz.prog w = .ok (.func (.func 139) #[] #[]) w := fun _ => by kernel_rfl
        by_cases hz : S = 0
        · have HZ2 : Hid (∀ j, j < 2 → (cmpsS a b).getD j 0 = 0) := fun j hj => by
            by_cases h : j < 1
            · exact HZ.out j h
            · obtain rfl : j = 1 := by omega
              rw [← HS.out]; exact hz
          subst hz
          have HC2 := HC.out wr hb1
          have HC3 : Hid (Calls Tryz.prog 139 #[.agg a.cells, .agg b.cells] wr fun r w' => r = .returned (.int .i64 0) ∧ BelowD wr.heap.size wr w') := HC2
          clear HC HC2 HS
          simp only [EntD.cells] at bxa bxb HC3
          go_wp2_with fail
          refine HC3.out.mono ?_
          rintro e2 w2 ⟨rfl, hb2⟩
          have B2 := hb1.trans (hb2.mono hb1.size)
          have bxa2 := BXA.out.later hb2.b
          have bxb2 := BXB.out.later hb2.b
          go_wp2
          go_roundw
          case rel => exact ⟨2, by omega, by go_num, HZ2.out, bxa2, bxb2, B2⟩
          case measure => simp [intOf]
        · have HR : Hid (compareS a b = S) := by unfold Hid compareS; rw [firstNZ_at _ 1 HZ.out (by rw [← HS.out]; exact hz), HS.out]
          have hz1 : (S != 0) = true := by simp; exact hz
          have HC2 := HC.out wr hb1
          have HC3 : Hid (Calls Tryz.prog 139 #[.agg a.cells, .agg b.cells] wr fun r w' => r = .returned (.int .i64 S) ∧ BelowD wr.heap.size wr w') := HC2
          clear HC HC2 HS
          simp only [EntD.cells] at bxa bxb HC3
          go_wp2_with fail
          refine HC3.out.mono ?_
          rintro e2 w2 ⟨rfl, hb2⟩
          have B2 := hb1.trans (hb2.mono hb1.size)
          go_wp2
          go_ret
          exact ⟨by rw [HR.out]; rfl, B2⟩
      · have HC : Hid (∀ w2, BelowD w.heap.size w w2 → Calls Tryz.prog 141 #[.agg a.cells, .agg b.cells] w2 fun r w' => r = .returned (.int .i64 S) ∧ BelowD w2.heap.size w2 w') := fun w2 h2 => by rw [HS.out]; exact ord3_d (HA.out.later h2.b) (HB.out.later h2.b)
        have hidx : ∀ w, (Instr.index 167 (.agg #[.func (.func 137) #[] #[], .func (.func 139) #[] #[], .func (.func 141) #[] #[], .func (.func 143) #[] #[], .func (.func 144) #[] #[], .func (.func 145) #[] #[], .func (.func 146) #[] #[], .func (.func 147) #[] #[]]) (.int .i64 2)).run Tryz.prog w = .ok (.func (.func 141) #[] #[]) w := fun _ => by kernel_rfl
        by_cases hz : S = 0
        · have HZ2 : Hid (∀ j, j < 3 → (cmpsS a b).getD j 0 = 0) := fun j hj => by
            by_cases h : j < 2
            · exact HZ.out j h
            · obtain rfl : j = 2 := by omega
              rw [← HS.out]; exact hz
          subst hz
          have HC2 := HC.out wr hb1
          have HC3 : Hid (Calls Tryz.prog 141 #[.agg a.cells, .agg b.cells] wr fun r w' => r = .returned (.int .i64 0) ∧ BelowD wr.heap.size wr w') := HC2
          clear HC HC2 HS
          simp only [EntD.cells] at bxa bxb HC3
          go_wp2_with fail
          refine HC3.out.mono ?_
          rintro e2 w2 ⟨rfl, hb2⟩
          have B2 := hb1.trans (hb2.mono hb1.size)
          have bxa2 := BXA.out.later hb2.b
          have bxb2 := BXB.out.later hb2.b
          go_wp2
          go_roundw
          case rel => exact ⟨3, by omega, by go_num, HZ2.out, bxa2, bxb2, B2⟩
          case measure => simp [intOf]
        · have HR : Hid (compareS a b = S) := by unfold Hid compareS; rw [firstNZ_at _ 2 HZ.out (by rw [← HS.out]; exact hz), HS.out]
          have hz1 : (S != 0) = true := by simp; exact hz
          have HC2 := HC.out wr hb1
          have HC3 : Hid (Calls Tryz.prog 141 #[.agg a.cells, .agg b.cells] wr fun r w' => r = .returned (.int .i64 S) ∧ BelowD wr.heap.size wr w') := HC2
          clear HC HC2 HS
          simp only [EntD.cells] at bxa bxb HC3
          go_wp2_with fail
          refine HC3.out.mono ?_
          rintro e2 w2 ⟨rfl, hb2⟩
          have B2 := hb1.trans (hb2.mono hb1.size)
          go_wp2
          go_ret
          exact ⟨by rw [HR.out]; rfl, B2⟩
      · have HC : Hid (∀ w2, BelowD w.heap.size w w2 → Calls Tryz.prog 143 #[.agg a.cells, .agg b.cells] w2 fun r w' => r = .returned (.int .i64 S) ∧ BelowD w2.heap.size w2 w') := fun w2 h2 => by rw [HS.out]; exact ord4_d (HA.out.later h2.b) (HB.out.later h2.b)
        have hidx : ∀ w, (Instr.index 167 (.agg #[.func (.func 137) #[] #[], .func (.func 139) #[] #[], .func (.func 141) #[] #[], .func (.func 143) #[] #[], .func (.func 144) #[] #[], .func (.func 145) #[] #[], .func (.func 146) #[] #[], .func (.func 147) #[] #[]]) (.int .i64 3)).run Tryz.prog w = .ok (.func (.func 143) #[] #[]) w := fun _ => by kernel_rfl
        by_cases hz : S = 0
        · have HZ2 : Hid (∀ j, j < 4 → (cmpsS a b).getD j 0 = 0) := fun j hj => by
            by_cases h : j < 3
            · exact HZ.out j h
            · obtain rfl : j = 3 := by omega
              rw [← HS.out]; exact hz
          subst hz
          have HC2 := HC.out wr hb1
          have HC3 : Hid (Calls Tryz.prog 143 #[.agg a.cells, .agg b.cells] wr fun r w' => r = .returned (.int .i64 0) ∧ BelowD wr.heap.size wr w') := HC2
          clear HC HC2 HS
          simp only [EntD.cells] at bxa bxb HC3
          go_wp2_with fail
          refine HC3.out.mono ?_
          rintro e2 w2 ⟨rfl, hb2⟩
          have B2 := hb1.trans (hb2.mono hb1.size)
          have bxa2 := BXA.out.later hb2.b
          have bxb2 := BXB.out.later hb2.b
          go_wp2
          go_roundw
          case rel => exact ⟨4, by omega, by go_num, HZ2.out, bxa2, bxb2, B2⟩
          case measure => simp [intOf]
        · have HR : Hid (compareS a b = S) := by unfold Hid compareS; rw [firstNZ_at _ 3 HZ.out (by rw [← HS.out]; exact hz), HS.out]
          have hz1 : (S != 0) = true := by simp; exact hz
          have HC2 := HC.out wr hb1
          have HC3 : Hid (Calls Tryz.prog 143 #[.agg a.cells, .agg b.cells] wr fun r w' => r = .returned (.int .i64 S) ∧ BelowD wr.heap.size wr w') := HC2
          clear HC HC2 HS
          simp only [EntD.cells] at bxa bxb HC3
          go_wp2_with fail
          refine HC3.out.mono ?_
          rintro e2 w2 ⟨rfl, hb2⟩
          have B2 := hb1.trans (hb2.mono hb1.size)
          go_wp2
          go_ret
          exact ⟨by rw [HR.out]; rfl, B2⟩
      · have HC : Hid (∀ w2, BelowD w.heap.size w w2 → Calls Tryz.prog 144 #[.agg a.cells, .agg b.cells] w2 fun r w' => r = .returned (.int .i64 S) ∧ BelowD w2.heap.size w2 w') := fun w2 h2 => by rw [HS.out]; exact ord5_d (HA.out.later h2.b) (HB.out.later h2.b)
        have hidx : ∀ w, (Instr.index 167 (.agg #[.func (.func 137) #[] #[], .func (.func 139) #[] #[], .func (.func 141) #[] #[], .func (.func 143) #[] #[], .func (.func 144) #[] #[], .func (.func 145) #[] #[], .func (.func 146) #[] #[], .func (.func 147) #[] #[]]) (.int .i64 4)).run Tryz.prog w = .ok (.func (.func 144) #[] #[]) w := fun _ => by kernel_rfl
        by_cases hz : S = 0
        · have HZ2 : Hid (∀ j, j < 5 → (cmpsS a b).getD j 0 = 0) := fun j hj => by
            by_cases h : j < 4
            · exact HZ.out j h
            · obtain rfl : j = 4 := by omega
              rw [← HS.out]; exact hz
          subst hz
          have HC2 := HC.out wr hb1
          have HC3 : Hid (Calls Tryz.prog 144 #[.agg a.cells, .agg b.cells] wr fun r w' => r = .returned (.int .i64 0) ∧ BelowD wr.heap.size wr w') := HC2
          clear HC HC2 HS
          simp only [EntD.cells] at bxa bxb HC3
          go_wp2_with fail
          refine HC3.out.mono ?_
          rintro e2 w2 ⟨rfl, hb2⟩
          have B2 := hb1.trans (hb2.mono hb1.size)
          have bxa2 := BXA.out.later hb2.b
          have bxb2 := BXB.out.later hb2.b
          go_wp2
          go_roundw
          case rel => exact ⟨5, by omega, by go_num, HZ2.out, bxa2, bxb2, B2⟩
          case measure => simp [intOf]
        · have HR : Hid (compareS a b = S) := by unfold Hid compareS; rw [firstNZ_at _ 4 HZ.out (by rw [← HS.out]; exact hz), HS.out]
          have hz1 : (S != 0) = true := by simp; exact hz
          have HC2 := HC.out wr hb1
          have HC3 : Hid (Calls Tryz.prog 144 #[.agg a.cells, .agg b.cells] wr fun r w' => r = .returned (.int .i64 S) ∧ BelowD wr.heap.size wr w') := HC2
          clear HC HC2 HS
          simp only [EntD.cells] at bxa bxb HC3
          go_wp2_with fail
          refine HC3.out.mono ?_
          rintro e2 w2 ⟨rfl, hb2⟩
          have B2 := hb1.trans (hb2.mono hb1.size)
          go_wp2
          go_ret
          exact ⟨by rw [HR.out]; rfl, B2⟩
      · have HC : Hid (∀ w2, BelowD w.heap.size w w2 → Calls Tryz.prog 145 #[.agg a.cells, .agg b.cells] w2 fun r w' => r = .returned (.int .i64 S) ∧ BelowD w2.heap.size w2 w') := fun w2 h2 => by rw [HS.out]; exact ord6_d (HA.out.later h2.b) (HB.out.later h2.b)
        have hidx : ∀ w, (Instr.index 167 (.agg #[.func (.func 137) #[] #[], .func (.func 139) #[] #[], .func (.func 141) #[] #[], .func (.func 143) #[] #[], .func (.func 144) #[] #[], .func (.func 145) #[] #[], .func (.func 146) #[] #[], .func (.func 147) #[] #[]]) (.int .i64 5)).run Tryz.prog w = .ok (.func (.func 145) #[] #[]) w := fun _ => by kernel_rfl
        by_cases hz : S = 0
        · have HZ2 : Hid (∀ j, j < 6 → (cmpsS a b).getD j 0 = 0) := fun j hj => by
            by_cases h : j < 5
            · exact HZ.out j h
            · obtain rfl : j = 5 := by omega
              rw [← HS.out]; exact hz
          subst hz
          have HC2 := HC.out wr hb1
          have HC3 : Hid (Calls Tryz.prog 145 #[.agg a.cells, .agg b.cells] wr fun r w' => r = .returned (.int .i64 0) ∧ BelowD wr.heap.size wr w') := HC2
          clear HC HC2 HS
          simp only [EntD.cells] at bxa bxb HC3
          go_wp2_with fail
          refine HC3.out.mono ?_
          rintro e2 w2 ⟨rfl, hb2⟩
          have B2 := hb1.trans (hb2.mono hb1.size)
          have bxa2 := BXA.out.later hb2.b
          have bxb2 := BXB.out.later hb2.b
          go_wp2
          go_roundw
          case rel => exact ⟨6, by omega, by go_num, HZ2.out, bxa2, bxb2, B2⟩
          case measure => simp [intOf]
        · have HR : Hid (compareS a b = S) := by unfold Hid compareS; rw [firstNZ_at _ 5 HZ.out (by rw [← HS.out]; exact hz), HS.out]
          have hz1 : (S != 0) = true := by simp; exact hz
          have HC2 := HC.out wr hb1
          have HC3 : Hid (Calls Tryz.prog 145 #[.agg a.cells, .agg b.cells] wr fun r w' => r = .returned (.int .i64 S) ∧ BelowD wr.heap.size wr w') := HC2
          clear HC HC2 HS
          simp only [EntD.cells] at bxa bxb HC3
          go_wp2_with fail
          refine HC3.out.mono ?_
          rintro e2 w2 ⟨rfl, hb2⟩
          have B2 := hb1.trans (hb2.mono hb1.size)
          go_wp2
          go_ret
          exact ⟨by rw [HR.out]; rfl, B2⟩
      · have HC : Hid (∀ w2, BelowD w.heap.size w w2 → Calls Tryz.prog 146 #[.agg a.cells, .agg b.cells] w2 fun r w' => r = .returned (.int .i64 S) ∧ BelowD w2.heap.size w2 w') := fun w2 h2 => by rw [HS.out]; exact ord7_d (HA.out.later h2.b) (HB.out.later h2.b)
        have hidx : ∀ w, (Instr.index 167 (.agg #[.func (.func 137) #[] #[], .func (.func 139) #[] #[], .func (.func 141) #[] #[], .func (.func 143) #[] #[], .func (.func 144) #[] #[], .func (.func 145) #[] #[], .func (.func 146) #[] #[], .func (.func 147) #[] #[]]) (.int .i64 6)).run Tryz.prog w = .ok (.func (.func 146) #[] #[]) w := fun _ => by kernel_rfl
        by_cases hz : S = 0
        · have HZ2 : Hid (∀ j, j < 7 → (cmpsS a b).getD j 0 = 0) := fun j hj => by
            by_cases h : j < 6
            · exact HZ.out j h
            · obtain rfl : j = 6 := by omega
              rw [← HS.out]; exact hz
          subst hz
          have HC2 := HC.out wr hb1
          have HC3 : Hid (Calls Tryz.prog 146 #[.agg a.cells, .agg b.cells] wr fun r w' => r = .returned (.int .i64 0) ∧ BelowD wr.heap.size wr w') := HC2
          clear HC HC2 HS
          simp only [EntD.cells] at bxa bxb HC3
          go_wp2_with fail
          refine HC3.out.mono ?_
          rintro e2 w2 ⟨rfl, hb2⟩
          have B2 := hb1.trans (hb2.mono hb1.size)
          have bxa2 := BXA.out.later hb2.b
          have bxb2 := BXB.out.later hb2.b
          go_wp2
          go_roundw
          case rel => exact ⟨7, by omega, by go_num, HZ2.out, bxa2, bxb2, B2⟩
          case measure => simp [intOf]
        · have HR : Hid (compareS a b = S) := by unfold Hid compareS; rw [firstNZ_at _ 6 HZ.out (by rw [← HS.out]; exact hz), HS.out]
          have hz1 : (S != 0) = true := by simp; exact hz
          have HC2 := HC.out wr hb1
          have HC3 : Hid (Calls Tryz.prog 146 #[.agg a.cells, .agg b.cells] wr fun r w' => r = .returned (.int .i64 S) ∧ BelowD wr.heap.size wr w') := HC2
          clear HC HC2 HS
          simp only [EntD.cells] at bxa bxb HC3
          go_wp2_with fail
          refine HC3.out.mono ?_
          rintro e2 w2 ⟨rfl, hb2⟩
          have B2 := hb1.trans (hb2.mono hb1.size)
          go_wp2
          go_ret
          exact ⟨by rw [HR.out]; rfl, B2⟩
      · have HC : Hid (∀ w2, BelowD w.heap.size w w2 → Calls Tryz.prog 147 #[.agg a.cells, .agg b.cells] w2 fun r w' => r = .returned (.int .i64 S) ∧ BelowD w2.heap.size w2 w') := fun w2 h2 => by rw [HS.out]; exact ord8_d (HA.out.later h2.b) (HB.out.later h2.b)
        have hidx : ∀ w, (Instr.index 167 (.agg #[.func (.func 137) #[] #[], .func (.func 139) #[] #[], .func (.func 141) #[] #[], .func (.func 143) #[] #[], .func (.func 144) #[] #[], .func (.func 145) #[] #[], .func (.func 146) #[] #[], .func (.func 147) #[] #[]]) (.int .i64 7)).run Tryz.prog w = .ok (.func (.func 147) #[] #[]) w := fun _ => by kernel_rfl
        by_cases hz : S = 0
        · have HZ2 : Hid (∀ j, j < 8 → (cmpsS a b).getD j 0 = 0) := fun j hj => by
            by_cases h : j < 7
            · exact HZ.out j h
            · obtain rfl : j = 7 := by omega
              rw [← HS.out]; exact hz
          subst hz
          have HC2 := HC.out wr hb1
          have HC3 : Hid (Calls Tryz.prog 147 #[.agg a.cells, .agg b.cells] wr fun r w' => r = .returned (.int .i64 0) ∧ BelowD wr.heap.size wr w') := HC2
          clear HC HC2 HS
          simp only [EntD.cells] at bxa bxb HC3
          go_wp2_with fail
          refine HC3.out.mono ?_
          rintro e2 w2 ⟨rfl, hb2⟩
          have B2 := hb1.trans (hb2.mono hb1.size)
          have bxa2 := BXA.out.later hb2.b
          have bxb2 := BXB.out.later hb2.b
          go_wp2
          go_roundw
          case rel => exact ⟨8, by omega, by go_num, HZ2.out, bxa2, bxb2, B2⟩
          case measure => simp [intOf]
        · have HR : Hid (compareS a b = S) := by unfold Hid compareS; rw [firstNZ_at _ 7 HZ.out (by rw [← HS.out]; exact hz), HS.out]
          have hz1 : (S != 0) = true := by simp; exact hz
          have HC2 := HC.out wr hb1
          have HC3 : Hid (Calls Tryz.prog 147 #[.agg a.cells, .agg b.cells] wr fun r w' => r = .returned (.int .i64 S) ∧ BelowD wr.heap.size wr w') := HC2
          clear HC HC2 HS
          simp only [EntD.cells] at bxa bxb HC3
          go_wp2_with fail
          refine HC3.out.mono ?_
          rintro e2 w2 ⟨rfl, hb2⟩
          have B2 := hb1.trans (hb2.mono hb1.size)
          go_wp2
          go_ret
          exact ⟨by rw [HR.out]; rfl, B2⟩
    · have hge : (8 : Int) ≤ (t : Int) := by omega
      have HR : Hid (compareS a b = 0) := by unfold Hid compareS; exact firstNZ_none _ (fun j hj => HZ.out j (by have : (cmpsS a b).length = 8 := rfl; omega))
      clear hlt
      go_wp2
      go_ret
      exact ⟨by rw [HR.out]; rfl, hb1⟩

end Go.Proofs.YthhkpkfpifllkaaGreat


namespace Go.Proofs.YthhkpkfpifllkaaGreat
open Go.RowKit
set_option linter.unusedVariables false

def laidSort : Go.Shelf.Ren := ⟨fun | 6 => 80 | 14 => 109 | 15 => 110 | 20 => 127 | 21 => 128 | 22 => 129 | 23 => 130 | 24 => 131 | 25 => 132 | 26 => 133 | 27 => 134 | 28 => 135 | 29 => 136 | 46 => 149 | 47 => 150 | 48 => 151 | 49 => 152 | 50 => 153 | 57 => 160 | n => n, fun | 0 => 0 | 3 => 3 | 4 => 4 | 5 => 5 | 9 => 9 | 22 => 28 | 24 => 84 | 25 => 134 | 39 => 165 | 45 => 177 | 46 => 178 | 50 => 117 | 53 => 184 | 55 => 186 | 66 => 188 | 70 => 192 | 76 => 197 | 77 => 54 | n => n, fun n => n⟩
set_option maxRecDepth 100000 in
theorem laysSort : SlLaysF0.n6 Tryz.prog laidSort := {
  mixed := by kernel_rfl,
  f6 := ⟨ "slices.SortFunc[[]strata/api.Entry,strata/api.Entry]", by decide, Tryz.func80.trans (congrArg some (by kernel_rfl))⟩,
  f14 := ⟨ "slices.pdqsortCmpFunc[strata/api.Entry]", by decide, Tryz.func109.trans (congrArg some (by kernel_rfl))⟩,
  f15 := Tryz.func110.trans (congrArg some (by kernel_rfl)),
  f20 := ⟨ "slices.insertionSortCmpFunc[strata/api.Entry]", by decide, Tryz.func127.trans (congrArg some (by kernel_rfl))⟩,
  f21 := ⟨ "slices.heapSortCmpFunc[strata/api.Entry]", by decide, Tryz.func128.trans (congrArg some (by kernel_rfl))⟩,
  f22 := ⟨ "slices.breakPatternsCmpFunc[strata/api.Entry]", by decide, Tryz.func129.trans (congrArg some (by kernel_rfl))⟩,
  f23 := ⟨ "slices.choosePivotCmpFunc[strata/api.Entry]", by decide, Tryz.func130.trans (congrArg some (by kernel_rfl))⟩,
  f24 := ⟨ "slices.reverseRangeCmpFunc[strata/api.Entry]", by decide, Tryz.func131.trans (congrArg some (by kernel_rfl))⟩,
  f25 := ⟨ "slices.partialInsertionSortCmpFunc[strata/api.Entry]", by decide, Tryz.func132.trans (congrArg some (by kernel_rfl))⟩,
  f26 := ⟨ "slices.partitionEqualCmpFunc[strata/api.Entry]", by decide, Tryz.func133.trans (congrArg some (by kernel_rfl))⟩,
  f27 := ⟨ "slices.partitionCmpFunc[strata/api.Entry]", by decide, Tryz.func134.trans (congrArg some (by kernel_rfl))⟩,
  f28 := Tryz.func135.trans (congrArg some (by kernel_rfl)),
  f29 := Tryz.func136.trans (congrArg some (by kernel_rfl)),
  f46 := ⟨ "slices.siftDownCmpFunc[strata/api.Entry]", by decide, Tryz.func149.trans (congrArg some (by kernel_rfl))⟩,
  f47 := Tryz.func150.trans (congrArg some (by kernel_rfl)),
  f48 := Tryz.func151.trans (congrArg some (by kernel_rfl)),
  f49 := ⟨ "slices.medianAdjacentCmpFunc[strata/api.Entry]", by decide, Tryz.func152.trans (congrArg some (by kernel_rfl))⟩,
  f50 := ⟨ "slices.medianCmpFunc[strata/api.Entry]", by decide, Tryz.func153.trans (congrArg some (by kernel_rfl))⟩,
  f57 := ⟨ "slices.order2CmpFunc[strata/api.Entry]", by decide, Tryz.func160.trans (congrArg some (by kernel_rfl))⟩,
  t0 := Tryz.underlying0,
  a0 := Tryz.isAgg0,
  z0 := Tryz.sizeOf0,
  v0 := Tryz.zeroValue0,
  t3 := Tryz.underlying3,
  a3 := Tryz.isAgg3,
  z3 := Tryz.sizeOf3,
  v3 := Tryz.zeroValue3,
  t4 := Tryz.underlying4,
  a4 := Tryz.isAgg4,
  z4 := Tryz.sizeOf4,
  v4 := Tryz.zeroValue4,
  t5 := Tryz.underlying5,
  a5 := Tryz.isAgg5,
  z5 := Tryz.sizeOf5,
  v5 := Tryz.zeroValue5,
  t9 := Tryz.underlying9,
  a9 := Tryz.isAgg9,
  z9 := Tryz.sizeOf9,
  v9 := Tryz.zeroValue9,
  t22 := Tryz.underlying28,
  a22 := Tryz.isAgg28,
  z22 := Tryz.sizeOf28,
  v22 := Tryz.zeroValue28,
  t25 := Tryz.underlying134,
  a25 := Tryz.isAgg134,
  z25 := Tryz.sizeOf134,
  v25 := Tryz.zeroValue134,
  t39 := Tryz.underlying165,
  a39 := Tryz.isAgg165,
  z39 := Tryz.sizeOf165,
  v39 := Tryz.zeroValue165,
  t45 := Tryz.underlying177,
  a45 := Tryz.isAgg177,
  z45 := Tryz.sizeOf177,
  v45 := Tryz.zeroValue177,
  t46 := Tryz.underlying178,
  a46 := Tryz.isAgg178,
  z46 := Tryz.sizeOf178,
  v46 := Tryz.zeroValue178,
  t50 := Tryz.underlying117,
  a50 := Tryz.isAgg117,
  z50 := Tryz.sizeOf117,
  v50 := Tryz.zeroValue117,
  t53 := Tryz.underlying184,
  a53 := Tryz.isAgg184,
  z53 := Tryz.sizeOf184,
  v53 := Tryz.zeroValue184,
  t55 := Tryz.underlying186,
  a55 := Tryz.isAgg186,
  z55 := Tryz.sizeOf186,
  v55 := Tryz.zeroValue186,
  t66 := Tryz.underlying188,
  a66 := Tryz.isAgg188,
  z66 := Tryz.sizeOf188,
  v66 := Tryz.zeroValue188,
  t70 := Tryz.underlying192,
  a70 := Tryz.isAgg192,
  z70 := Tryz.sizeOf192,
  v70 := Tryz.zeroValue192,
  t76 := Tryz.underlying197,
  a76 := Tryz.isAgg197,
  z76 := Tryz.sizeOf197,
  v76 := Tryz.zeroValue197,
  t77 := Tryz.underlying54,
  a77 := Tryz.isAgg54,
  z77 := Tryz.sizeOf54,
  v77 := Tryz.zeroValue54 }
end Go.Proofs.YthhkpkfpifllkaaGreat

namespace Go.Proofs.YthhkpkfpifllkaaGreat
open Go.RowKit
set_option linter.unusedVariables false

abbrev EA (Z : World) : Type := { x : EntD // EntD.Ok Z x }
def eaZ (Z : World) : EA Z := ⟨⟨.slice none 0 0, 0, .slice none 0 0, 0, 0, 0, .slice none 0 0, [], [], []⟩, by
  have : Rd Z (.slice none 0 0) [] := ⟨(fun x hx => by cases hx), none, 0, rfl, Nat.le_refl _, Nat.zero_le _, Nat.zero_le _, .inl rfl, .inl rfl⟩
  exact ⟨this, this, this⟩⟩
instance (Z : World) : Inhabited (EA Z) := ⟨eaZ Z⟩
def encA (Z : World) (x : EA Z) : List Value := x.1.cells.toList
def cfA (Z : World) (x y : EA Z) : Int := compareS x.1 y.1
theorem swo_cfA (Z : World) : Go.Sort.SWO (ltOf (cfA Z)) := by
  refine ⟨fun x => ?_, fun x y z h k => ?_, fun x y z h k => ?_⟩
  · simp [ltOf, cfA, compareS_self]
  · have h1 : compareS x.1 y.1 < 0 := of_decide_eq_true h
    have k1 : compareS y.1 z.1 < 0 := of_decide_eq_true k
    have := compareS_tri x.1 y.1 z.1
    unfold Tri at this
    exact decide_eq_true (p := compareS x.1 z.1 < 0) (by omega)
  · have h1 : ¬ compareS x.1 y.1 < 0 := of_decide_eq_false h
    have k1 : ¬ compareS y.1 z.1 < 0 := of_decide_eq_false k
    have := compareS_tri x.1 y.1 z.1
    unfold Tri at this
    exact decide_eq_false (p := compareS x.1 z.1 < 0) (by omega)
theorem encA_one (Z : World) (x : EA Z) : ∀ v ∈ encA Z x, v.oneCell' = true := by
  obtain ⟨⟨vr, fam, vq, ts, seq, kind, vv, row, qual, val⟩, r1, r2, r3⟩ := x
  obtain ⟨_, a1, c1, e1, _⟩ := r1
  obtain ⟨_, a2, c2, e2, _⟩ := r2
  obtain ⟨_, a3, c3, e3, _⟩ := r3
  simp only at e1 e2 e3
  subst e1 e2 e3
  intro v hv
  simp only [encA, EntD.cells, List.mem_cons, List.not_mem_nil, or_false] at hv
  rcases hv with rfl | rfl | rfl | rfl | rfl | rfl | rfl <;> rfl
theorem encA_no8 (Z : World) (x : EA Z) (j : Nat) (n : Int) : (encA Z x)[j]? ≠ some (.int .u8 n) := by
  intro h
  have hv := List.mem_of_getElem? h
  obtain ⟨⟨vr, fam, vq, ts, seq, kind, vv, row, qual, val⟩, r1, r2, r3⟩ := x
  obtain ⟨_, a1, c1, e1, _⟩ := r1
  obtain ⟨_, a2, c2, e2, _⟩ := r2
  obtain ⟨_, a3, c3, e3, _⟩ := r3
  simp only at e1 e2 e3
  subst e1 e2 e3
  simp [encA, EntD.cells] at hv
theorem cell_sort {Z : World} {blk off m : Nat} {d dk : Array (EA Z)} {os : Array Obj} (hH : Go.Sort.HoldsK (encA Z) 7 Z blk off d) (hs : dk.size = d.size) {b o : Nat} {n : Int} (hc : Z.cell? ⟨b, o, none⟩ = some (.int .u8 n)) : (sortWorldK (encA Z) 7 Z blk off m dk os).cell? ⟨b, o, none⟩ = some (.int .u8 n) := by
  have lt := World.block_lt_of_cell? Z _ hc
  have hout : b ≠ blk ∨ o < off ∨ off + (Go.Sort.flatK (encA Z) 7 dk).size ≤ o := by
    rw [Go.Sort.size_flatK]
    apply Classical.byContradiction
    intro hn
    have h1 : b = blk := by omega
    have h2 : off ≤ o := by omega
    have h3 : o < off + dk.size * 7 := by omega
    have hj : o - off < d.size * 7 := by omega
    have := (hH (o - off) (by rw [Go.Sort.size_flatK]; exact hj)).1
    rw [Go.Sort.get_flatK _ _ _ _ hj, show off + (o - off) = o by omega, ← h1, hc] at this
    have h4 : (encA Z d[(o - off) / 7]!).length = 7 := rfl
    have h5 : (o - off) % 7 < 7 := Nat.mod_lt _ (by omega)
    refine encA_no8 Z d[(o - off) / 7]! ((o - off) % 7) n ?_
    rw [this]
    show _ = some ((encA Z d[(o - off) / 7]!)[(o - off) % 7]!)
    rw [List.getElem!_eq_getElem?_getD, List.getElem?_eq_getElem (by rw [h4]; exact h5)]
    rfl
  unfold sortWorldK Go.Sort.putRowK
  rw [Go.Sort.cell?_grow _ _ _ (by rw [Go.Sort.size_putRow]; exact lt), Go.Sort.cell?_putRow_other _ _ _ _ _ _ hout]
  exact hc
theorem Rd.sort {Z : World} {blk off m : Nat} {d dk : Array (EA Z)} {os : Array Obj} (hH : Go.Sort.HoldsK (encA Z) 7 Z blk off d) (hs : dk.size = d.size) {x : Value} {bs : List Nat} (r : Rd Z x bs) : Rd (sortWorldK (encA Z) 7 Z blk off m dk os) x bs := by
  obtain ⟨h1, a, cap, rfl, h3, h4, h5, h6, h7⟩ := r
  refine ⟨h1, a, cap, rfl, h3, h4, h5, h6, ?_⟩
  rcases h7 with h7 | ⟨b, o, rfl, hc⟩
  · exact .inl h7
  · exact .inr ⟨b, o, rfl, fun i hi => cell_sort hH hs (hc i hi)⟩
theorem world_grow {W w' : World} (h : BelowD W.heap.size W w') : ∃ q os', w' = Go.Sort.grow (W.drewN q) os' := by
  refine ⟨w'.drawn - W.drawn, w'.heap.extract W.heap.size w'.heap.size, ?_⟩
  have hd := h.d
  have hsz := h.b.size
  have hh : w'.heap = W.heap ++ w'.heap.extract W.heap.size w'.heap.size := by
    apply Array.ext_getElem?
    intro i
    by_cases hi : i < W.heap.size
    · rw [Array.getElem?_append_left hi]
      exact h.b.block i hi
    · rw [Array.getElem?_append_right (by omega), Array.getElem?_extract]
      by_cases h2 : i < w'.heap.size
      · rw [if_pos (by omega), show W.heap.size + (i - W.heap.size) = i by omega]
      · rw [if_neg (by omega), Array.getElem?_eq_none (by omega)]
  have e1 := h.b.os
  have e2 := h.b.tape
  have e3 := h.b.output
  obtain ⟨hp, tp, dr, os, ou⟩ := w'
  simp only at *
  unfold Go.Sort.grow World.drewN
  simp only [World.mk.injEq]
  exact ⟨hh, e2, by omega, e1, e3⟩
theorem cmp_lays {Z : World} {blk off : Nat} {d : Array (EA Z)} (hH : Go.Sort.HoldsK (encA Z) 7 Z blk off d) : CmpLays Tryz.prog 81 #[] (encA Z) 7 (cfA Z) blk off d.size Z := by
  intro m os dk hs x y
  have e : (#[.agg (encA Z x).toArray, .agg (encA Z y).toArray] ++ #[] : Array Value) = #[.agg x.1.cells, .agg y.1.cells] := by simp [encA]
  rw [e]
  refine Calls.mono (compare_d ⟨x.2.1.sort hH hs, x.2.2.1.sort hH hs, x.2.2.2.sort hH hs⟩ ⟨y.2.1.sort hH hs, y.2.2.1.sort hH hs, y.2.2.2.sort hH hs⟩) ?_
  rintro r w' ⟨rfl, hb⟩
  exact ⟨rfl, world_grow hb⟩
end Go.Proofs.YthhkpkfpifllkaaGreat

namespace Go.Proofs.YthhkpkfpifllkaaGreat
open Go.RowKit
set_option linter.unusedVariables false

def Sp.wl (s : Sp) : Nat := if s.waiting then 1 else 0
def Sp.rk (s : Sp) (n : Int) : Prop := 0 ≤ s.rank ∧ s.rank ≤ n
section
variable {fs : List (Int × Int)} {clock : Int}
theorem decide_wl (s : Sp) (e : En) : (decideS fs clock s e).2.waiting = s.waiting := by
  unfold decideS
  repeat' split
  all_goals rfl
theorem decide_rk {s : Sp} {n : Int} (h : s.rk n) (e : En) : (decideS fs clock s e).2.rk (n + 1) := by
  unfold decideS Sp.rk at *
  repeat' split
  all_goals (simp only; omega)
theorem resolve_len (s : Sp) (k : Int) : (resolveS fs clock s k).1.length = s.wl := by
  unfold resolveS Sp.wl
  split <;> rfl
theorem resolve_wl (s : Sp) (k : Int) : (resolveS fs clock s k).2.waiting = false := by
  unfold resolveS
  split
  · rw [decide_wl]
  · rename_i h
    simpa using h
theorem resolve_rk {s : Sp} {n : Int} (h : s.rk n) (k : Int) : (resolveS fs clock s k).2.rk (n + (resolveS fs clock s k).1.length) := by
  unfold resolveS
  split
  · exact decide_rk (s := { s with waiting := false }) h _
  · simpa using h
theorem stretch_wl (s : Sp) (e : En) : (stretchS s e).2.waiting = s.waiting := by unfold stretchS; split <;> rfl
theorem stretch_rk {s : Sp} {n : Int} (h : s.rk n) (e : En) : (stretchS s e).2.rk n := by unfold stretchS; split <;> exact h
theorem left_wl (s : Sp) (f c : Bool) : (leftS s f c).waiting = s.waiting := by unfold leftS; cases f <;> cases c <;> rfl
theorem left_rk {s : Sp} {n : Int} (h : s.rk n) (f c : Bool) : (leftS s f c).rk n := by
  unfold leftS Sp.rk at *
  cases f <;> cases c <;> simp <;> omega
theorem enter_len (s : Sp) (e : En) : (enterS fs clock s e).1.length + (enterS fs clock s e).2.wl = s.wl := by
  unfold enterS
  split
  · simp
  · have h1 := resolve_len (fs := fs) (clock := clock) s 3
    have h2 := resolve_wl (fs := fs) (clock := clock) s 3
    simp only [Sp.wl, left_wl, h2] at *
    simp [h1]
theorem enter_rk {s : Sp} {n : Int} (h : s.rk n) (e : En) : (enterS fs clock s e).2.rk (n + (enterS fs clock s e).1.length) := by
  unfold enterS
  split
  · simpa using h
  · exact left_rk (resolve_rk h 3) _ _
theorem enter_new {s : Sp} {e : En} (h : ¬ sameGrp s e = true) : (enterS fs clock s e).2.waiting = false := by
  unfold enterS
  rw [if_neg h]
  show (leftS _ _ _).waiting = false
  rw [left_wl, resolve_wl]
theorem step_len (s : Sp) (e : En) : (stepS fs clock s e).1.length + (stepS fs clock s e).2.wl = s.wl + 1 := by
  have h0 := enter_len (fs := fs) (clock := clock) s e
  unfold stepS
  split
  · have := stretch_wl (enterS fs clock s e).2 e
    simp only [Sp.wl, rememberS, this, List.length_append, List.length_cons, List.length_nil] at *
    omega
  · split
    · rename_i hg
      split
      · have h1 := resolve_len (fs := fs) (clock := clock) (enterS fs clock s e).2 2
        have h2 := resolve_wl (fs := fs) (clock := clock) (enterS fs clock s e).2 2
        simp only [Sp.wl, rememberS, h2, List.length_append, List.length_cons, List.length_nil] at *
        simp only [Bool.false_eq_true, if_false]
        omega
      · show ((enterS fs clock s e).1 ++ [_]).length + (enterS fs clock s e).2.wl = _
        rw [List.length_append, List.length_cons, List.length_nil]
        omega
    · rename_i hg
      have h3 := enter_new (fs := fs) (clock := clock) hg
      split
      · simp only [Sp.wl, rememberS, h3] at *
        simp only [Bool.false_eq_true, if_false, if_true] at *
        omega
      · have h4 := decide_wl (fs := fs) (clock := clock) (enterS fs clock s e).2 e
        simp only [Sp.wl, rememberS, h4, h3, List.length_append, List.length_cons, List.length_nil] at *
        omega
theorem rk_mono {s : Sp} {n m : Int} (h : s.rk n) (k : n ≤ m) : s.rk m := ⟨h.1, Int.le_trans h.2 k⟩
theorem step_rk {s : Sp} {n : Int} (h : s.rk n) (e : En) : (stepS fs clock s e).2.rk (n + (stepS fs clock s e).1.length) := by
  have h0 := enter_rk (fs := fs) (clock := clock) h e
  unfold stepS
  split
  · refine rk_mono (show Sp.rk (rememberS _ e) _ from stretch_rk h0 e) ?_
    simp only [List.length_append]
    omega
  · split
    · split
      · refine rk_mono (show Sp.rk (rememberS _ e) _ from resolve_rk h0 2) ?_
        simp only [List.length_append]
        omega
      · refine rk_mono (show Sp.rk (rememberS _ e) _ from h0) ?_
        simp only [List.length_append]
        omega
    · split
      · exact h0
      · refine rk_mono (show Sp.rk (rememberS _ e) _ from decide_rk h0 e) ?_
        simp only [List.length_append, List.length_cons, List.length_nil]
        omega
theorem step_begun (s : Sp) (e : En) : (stepS fs clock s e).2.begun = true := by
  unfold stepS
  repeat' split
  all_goals rfl
theorem walk_snoc (s : Sp) (l : List En) (e : En) : walkS fs clock s (l ++ [e]) = ((walkS fs clock s l).1 ++ (stepS fs clock (walkS fs clock s l).2 e).1, (stepS fs clock (walkS fs clock s l).2 e).2) := by
  induction l generalizing s with
  | nil => simp [walkS]
  | cons x l ih => simp only [List.cons_append, walkS, ih, List.append_assoc]
end
end Go.Proofs.YthhkpkfpifllkaaGreat

namespace Go.Proofs.YthhkpkfpifllkaaGreat
open Go.RowKit
set_option linter.unusedVariables false

structure Ov (W1 : World) (wb g rb : Nat) (fv : Value) (fs : List FamD) (clock : Int) (T : World → (Nat → Prop) → List Vd → Prop) (ys : List EntD) (k : Nat) (W : World) : Prop where
  st : ∃ O s, Wk W1 wb g rb fv fs clock T W O s (walkS (mt fs) clock Sp.zero ((ys.take k).map EntD.dat)).1 ∧ s.dat = (walkS (mt fs) clock Sp.zero ((ys.take k).map EntD.dat)).2
theorem walk_len {fs : List (Int × Int)} {clock : Int} (l : List En) : (walkS fs clock Sp.zero l).1.length + (walkS fs clock Sp.zero l).2.wl = l.length ∧ (walkS fs clock Sp.zero l).2.rk (walkS fs clock Sp.zero l).1.length ∧ ((walkS fs clock Sp.zero l).2.waiting = true → (walkS fs clock Sp.zero l).2.begun = true) := by
  have gen : ∀ (l : List En) (s : Sp) (n : Int), s.rk n → (s.waiting = true → s.begun = true) → (walkS fs clock s l).1.length + (walkS fs clock s l).2.wl = l.length + s.wl ∧ (walkS fs clock s l).2.rk (n + (walkS fs clock s l).1.length) ∧ ((walkS fs clock s l).2.waiting = true → (walkS fs clock s l).2.begun = true) := by
    intro l
    induction l with
    | nil => intro s n h1 h2; exact ⟨by simp [walkS], by simpa [walkS] using h1, h2⟩
    | cons e l ih =>
      intro s n h1 h2
      have a1 := step_len (fs := fs) (clock := clock) s e
      have a2 := step_rk (fs := fs) (clock := clock) h1 e
      obtain ⟨b1, b2, b3⟩ := ih (stepS fs clock s e).2 _ a2 (fun _ => step_begun s e)
      refine ⟨?_, ?_, b3⟩
      · simp only [walkS, List.length_append, List.length_cons]
        omega
      · refine rk_mono b2 ?_
        simp only [walkS, List.length_append]
        omega
  have := gen l Sp.zero 0 (by simp [Sp.rk, Sp.zero]) (by simp [Sp.zero])
  simpa [Sp.wl, Sp.zero] using this

set_option maxRecDepth 100000 in
set_option maxHeartbeats 4000000 in
theorem over_any {W : World} {wb g rb B n cap fc : Nat} {a fa : Option Addr} {fs : List FamD} {clock : Int} {T : World → (Nat → Prop) → List Vd → Prop} (ht : Teller g rb T) (hb : WBx W wb (.slice fa fs.length fc) clock (.func (.func g) #[.pointer (some ⟨rb, 0, none⟩)] #[]) spZ) (hf : OwnF W B (.slice fa fs.length fc) fs.length fs) (hl8 : fs.length ≤ 8) (t : T W (fun i => i = rb) []) (hne : wb ≠ rb) (hr : ∃ cs ty, W.heap[rb]? = some (.cells cs ty (0, 0)) ∧ ty ≠ 132 ∧ ty ≠ 84) (hfs : ∀ f ∈ fs, 0 ≤ f.tl ∧ f.tl ≤ 1099511627776)
    (E : Int) (P : List EntD → Prop) (HI : Calls Tryz.prog 47 #[.slice a n cap, .func (.func 94) #[.pointer (some ⟨wb, 0, none⟩)] #[]] W fun r W' => Below W.heap.size W W' ∧ (E ≠ 0 → r = .returned (.tuple #[.slice none 0 0, .int .i64 E])) ∧ (E = 0 → ∃ (ys : List EntD) (a' : Option Addr) (c' : Nat), P ys ∧ r = .returned (.tuple #[.slice a' ys.length c', .int .i64 0]) ∧ W'.ownsRow W.heap.size 84 7 (.slice a' ys.length c') ys.length (evals ys)))
    (hys : E = 0 → ∀ ys, P ys → (∀ y ∈ ys, Fit fs.length y.dat ∧ ∀ Z, Fr0 W wb rb Z → EntD.Ok Z y) ∧ ys.length ≤ 1353245080300) :
    Calls Tryz.prog 60 #[.pointer (some ⟨wb, 0, none⟩), .slice a n cap] W fun r W' => r = .returned (.int .i64 E) ∧ (E ≠ 0 → Below W.heap.size W W') ∧ (E = 0 → ∃ (ys : List EntD) (W1 : World) (O : Nat → Prop), P ys ∧ Below W.heap.size W W1 ∧ Wk W1 wb g rb (.slice fa fs.length fc) fs clock T W' O spZ (verdictsS (mt fs) clock (ys.map EntD.dat))) := by
  have HT := Lib.hid ht
  have HHI := Lib.hid HI
  have HYs := Lib.hid hys
  have HFs := Lib.hid hfs
  have rlt : rb < W.heap.size := by obtain ⟨cs, ty, h1, h2, h3⟩ := hr; exact (Array.getElem?_eq_some_iff.1 h1).1
  have HS0 : Hid (∀ Z, Below W.heap.size W Z → Wk Z wb g rb (.slice fa fs.length fc) fs clock T Z (fun i => i = rb) spZ []) := fun Z b => by
    refine Wk.start (T := T) (B := B) (hb.later b) ⟨hf.1, row_same hf.2 (fun g hg => b.block g (hf.2.lt g hg).2)⟩ hl8 (ht.keep t (fun i hi => by rw [hi]; exact b.block rb rlt) b.size) hne ?_
    obtain ⟨cs, ty, h1, h2, h3⟩ := hr
    exact ⟨cs, ty, by rw [b.block rb rlt]; exact h1, h2⟩
  have HRb : Hid (∀ Z, Below W.heap.size W Z → ∀ q cs, Z.heap[q]? = some (.cells cs 84 (0, 0)) → q ≠ wb ∧ q ≠ rb) := fun Z b q cs hq => by
    refine ⟨fun z => ?_, fun z => ?_⟩
    · have := hb.later b
      unfold WBx at this
      rw [← z, hq] at this
      simp at this
    · obtain ⟨cs', ty, h1, h2, h3⟩ := hr
      rw [← b.block rb rlt, ← z, hq] at h1
      simp at h1
      exact h3 h1.2.symm
  have HWb := Lib.hid hb
  obtain ⟨fv, hfv⟩ : ∃ fv, fv = Value.slice fa fs.length fc := ⟨_, rfl⟩
  rw [← hfv] at HS0 ⊢
  clear ht HI hys hfs hb hf hl8 t hr hfv HWb rlt
  go_enter Tryz.func60, Tryz.ntmps60
  go_wp2_with fail
  refine Calls.mono HHI.out ?_
  rintro z W1 ⟨b1, hE, hE0⟩
  have HB1 := Lib.hid b1
  clear HHI b1
  by_cases h0 : E = 0
  · obtain ⟨ys, a', c', hP, rfl, row⟩ := hE0 h0
    subst h0
    obtain ⟨hall, hlen⟩ := HYs.out rfl ys hP
    have HPy := Lib.hid hP
    clear hP
    have HAll := Lib.hid hall
    have HRow := Lib.hid row
    obtain ⟨M, hM⟩ : ∃ M, M = ys.length := ⟨_, rfl⟩
    rw [← hM] at hlen ⊢
    have HM := Lib.hid hM
    clear hE hE0 hall row HYs hM
    have HW1 := Lib.hid (HS0.out W1 HB1.out)
    have HRz : Hid (∀ Z, Fr0 W1 wb rb Z → Z.ownsRow W.heap.size 84 7 (.slice a' ys.length c') ys.length (evals ys)) := fun Z hZ => by
      refine row_same HRow.out (fun q hq => ?_)
      have hne2 : q ≠ wb ∧ q ≠ rb := by
        rcases HRow.out.2 with ⟨h1, _⟩ | ⟨q', cap', cur, h1, _, h3, _⟩
        · rw [h1] at hq; cases hq
        · rw [h1] at hq
          cases hq
          exact HRb.out W1 HB1.out _ _ h3
      exact hZ.2 q (HRow.out.lt q hq).2 hne2.1 hne2.2 (fun z => z)
    have HOkz : Hid (∀ y ∈ ys, ∀ Z, Fr0 W1 wb rb Z → EntD.Ok Z y) := fun y hy Z hZ => (HAll.out y hy).2 Z ⟨Nat.le_trans HB1.out.size hZ.1, fun i hi h1 h2 _ => (hZ.2 i (Nat.lt_of_lt_of_le hi HB1.out.size) h1 h2 (fun z => z)).trans (HB1.out.block i hi)⟩
    go_wp2
    go_loopw [21] (fun i wr => ∃ k : Nat, k ≤ M ∧ i = .int .i64 (k : Int) ∧ Hid (Ov W1 wb g rb fv fs clock T ys k wr)) (fun i _ => M - (intOf i).toNat)
    case atStart => exact ⟨0, Nat.zero_le _, rfl, ⟨_, _, HW1.out, rfl⟩⟩
    case round =>
      obtain ⟨k, hk, rfl, HO⟩ := hrel
      have k0 : (0 : Int) ≤ (k : Int) := by omega
      obtain ⟨O, s, hwk, hsd⟩ := HO.out.st
      obtain ⟨l1, l2, l3⟩ := walk_len (fs := mt fs) (clock := clock) ((ys.take k).map EntD.dat)
      rw [← hsd] at l1 l2 l3
      have hrk : s.rank ≤ (walkS (mt fs) clock Sp.zero ((ys.take k).map EntD.dat)).1.length := l2.2
      have hwl : (walkS (mt fs) clock Sp.zero ((ys.take k).map EntD.dat)).1.length ≤ k := by
        rw [List.length_map, List.length_take] at l1
        omega
      by_cases hlt : k < M
      · have hlt2 : (k : Int) < (M : Int) := by omega
        obtain ⟨e, he⟩ : ∃ e, ys[k]? = some e := ⟨ys[k]'(by rw [← HM.out]; exact hlt), List.getElem?_eq_getElem _⟩
        have hme := List.mem_of_getElem? he
        obtain ⟨gq, rfl, lc, cm, hcell⟩ := row_cells3 (HRz.out wr hwk.fr) he
        have hok := HOkz.out e hme wr hwk.fr
        have d0 := hcell 0 e.vr rfl
        have d1 := hcell 1 (.int .i64 e.fam) rfl
        have d2 := hcell 2 e.vq rfl
        have d3 := hcell 3 (.int .i64 e.ts) rfl
        have d4 := hcell 4 (.int .i64 e.seq) rfl
        have d5 := hcell 5 (.int .i64 e.kind) rfl
        have d6 := hcell 6 e.vv rfl
        simp only [Nat.add_zero] at d0
        have A5 := (Below.refl wr.heap.size wr).alloc (Nat.le_refl _) (.cells e.cells 84)
        have HSt := Lib.hid (step_any HT.out (hwk.later HT.out A5) (HOkz.out e hme) (HAll.out e hme).1 (by omega) HFs.out hrk (fun z => l3 z))
        obtain ⟨_, a1, n1, e1, -⟩ := hok.1
        obtain ⟨_, a2, n2, e2, -⟩ := hok.2.1
        obtain ⟨_, a3, n3, e3, -⟩ := hok.2.2
        have hXe : e.cells = #[.slice a1 e.row.length n1, .int .i64 e.fam, .slice a2 e.qual.length n2, .int .i64 e.ts, .int .i64 e.seq, .int .i64 e.kind, .slice a3 e.val.length n3] := by unfold EntD.cells; rw [e1, e2, e3]
        rw [e1] at d0
        rw [e2] at d2
        rw [e3] at d6
        rw [hXe] at HSt
        have HSd := Lib.hid (And.intro hsd he)
        clear hcell hok A5 e1 e2 e3 hXe l1 l2 l3 hrk hwk hme hsd he HO
        go_wp2_with fail
        refine Calls.mono HSt.out ?_
        rintro z2 X2 ⟨rfl, O', s', hwk', hsd'⟩
        have HO2 : Hid (Ov W1 wb g rb fv fs clock T ys (k + 1) X2) := by
          refine ⟨O', s', ?_, ?_⟩
          · rw [List.take_add_one, HSd.out.2, List.map_append]
            show Wk _ _ _ _ _ _ _ _ _ _ _ (walkS (mt fs) clock Sp.zero ((ys.take k).map EntD.dat ++ [e.dat])).1
            rw [walk_snoc, ← HSd.out.1]
            exact hwk'
          · rw [List.take_add_one, HSd.out.2, List.map_append]
            show _ = (walkS (mt fs) clock Sp.zero ((ys.take k).map EntD.dat ++ [e.dat])).2
            rw [walk_snoc, ← HSd.out.1]
            exact hsd'
        clear hwk' hsd' HSt d0 d1 d2 d3 d4 d5 d6
        go_wp2
        go_roundw
        case rel => exact ⟨k + 1, by omega, by go_num, HO2⟩
        case measure => simp only [intOf]; omega
      · have hge : ¬ (k : Int) < (M : Int) := by omega
        have hk2 : k = M := by omega
        have HEn := Lib.hid (end_any HT.out hwk (by omega) HFs.out hrk (fun z => l3 z))
        have hall : ys.take k = ys := by rw [hk2, HM.out, List.take_length]
        rw [hall] at hsd HEn
        have HSd := Lib.hid hsd
        clear hwk l1 l2 l3 hrk hwl hsd hall HO
        go_wp2_with fail
        refine Calls.mono HEn.out ?_
        rintro z2 X2 ⟨rfl, O', hwk'⟩
        rw [HSd.out] at hwk'
        have HF := Lib.hid hwk'
        clear hwk' HEn
        go_wp2
        go_ret
        exact ⟨rfl, ys, HPy.out, W1, HB1.out, O', HF.out⟩
  · have hz := hE h0
    subst hz
    have b0 : (E != 0) = true := by simp [h0]
    have H0 := Lib.hid h0
    clear hE hE0 h0
    go_wp2
    go_ret
    exact ⟨rfl, fun _ => HB1.out, fun z => absurd z H0.out⟩
end Go.Proofs.YthhkpkfpifllkaaGreat

namespace Go.Proofs.YthhkpkfpifllkaaGreat
open Go.RowKit
set_option linter.unusedVariables false

def firstBad (chk : EntD → Int) : List EntD → Int
  | [] => 0
  | e :: l => if chk e ≠ 0 then chk e else firstBad chk l
theorem firstBad_zero {chk : EntD → Int} {l : List EntD} (h : ∀ x ∈ l, chk x = 0) : firstBad chk l = 0 := by
  induction l with
  | nil => rfl
  | cons e l ih =>
    rw [firstBad, if_neg (by simpa using h e List.mem_cons_self)]
    exact ih (fun x hx => h x (List.mem_cons_of_mem _ hx))
theorem firstBad_at {chk : EntD → Int} {l r : List EntD} {e : EntD} (h : ∀ x ∈ l, chk x = 0) (he : chk e ≠ 0) : firstBad chk (l ++ e :: r) = chk e := by
  induction l with
  | nil => show firstBad chk (e :: r) = _; rw [firstBad, if_pos he]
  | cons x l ih =>
    show firstBad chk (x :: (l ++ e :: r)) = _
    rw [firstBad, if_neg (by simpa using h x List.mem_cons_self)]
    exact ih (fun y hy => h y (List.mem_cons_of_mem _ hy))
def inOrderE (chk : EntD → Int) (l : List EntD) : Int := if firstBad chk l ≠ 0 then firstBad chk l else if onceS l = none then 31 else 0
theorem seq_of_check {k : Nat} {e : EntD} (h : check3S k e = 0) : 0 ≤ e.seq ∧ e.seq ≤ 17592186044431 := by
  unfold check3S at h
  by_cases hc : checkS e = 0
  · unfold checkS at hc
    repeat' split at hc
    all_goals first | (exfalso; omega) | skip
    omega
  · rw [if_pos hc] at h
    omega

set_option maxRecDepth 100000 in
set_option maxHeartbeats 4000000 in
theorem inOrder_any {W : World} {wb k fc cap : Nat} {a fa : Option Addr} {clock : Int} {tv : Value} {s : SpD} {l : List EntD} (hb : WBx W wb (.slice fa k fc) clock tv s) (hr : RdL3 W a cap l) (hl : l.length ≤ 1353245080300)
    (HSort : ∀ Z a' c' xs, onceS l = some xs → Below W.heap.size W Z → Z.ownsRow W.heap.size 84 7 (.slice a' xs.length c') xs.length (evals xs) → Calls Tryz.prog 80 #[.slice a' xs.length c', .func (.func 81) #[] #[]] Z fun r Z' => r = .returned (.tuple #[]) ∧ ∃ ys : List EntD, ys.Perm xs ∧ (ys.Pairwise fun x y => compareS x y ≤ 0) ∧ Z'.ownsRow W.heap.size 84 7 (.slice a' xs.length c') xs.length (evals ys) ∧ Z.grownBy Z' (Value.slice a' xs.length c').ownBlock) :
    Calls Tryz.prog 47 #[.slice a l.length cap, .func (.func 94) #[.pointer (some ⟨wb, 0, none⟩)] #[]] W fun r W' => Below W.heap.size W W' ∧ (inOrderE (check3S k) l ≠ 0 → r = .returned (.tuple #[.slice none 0 0, .int .i64 (inOrderE (check3S k) l)])) ∧ (inOrderE (check3S k) l = 0 → ∃ xs ys a' c', onceS l = some xs ∧ ys.Perm xs ∧ (ys.Pairwise fun x y => compareS x y ≤ 0) ∧ r = .returned (.tuple #[.slice a' ys.length c', .int .i64 0]) ∧ W'.ownsRow W.heap.size 84 7 (.slice a' ys.length c') ys.length (evals ys)) := by
  obtain ⟨R, hR⟩ : ∃ R, R = inOrderE (check3S k) l := ⟨_, rfl⟩
  obtain ⟨N, hN⟩ : ∃ N, N = l.length := ⟨_, rfl⟩
  rw [← hN] at hl ⊢
  rw [← hR]
  have HRR := Lib.hid hR
  have HN := Lib.hid hN
  have HB := Lib.hid hb
  have HRd := Lib.hid hr
  have HSo := Lib.hid HSort
  clear hR hN hb hr HSort
  go_enter Tryz.func47, Tryz.ntmps47
  go_wp2
  go_loopw [13] (fun i wr => ∃ t : Nat, t ≤ N ∧ i = .int .i64 (t : Int) ∧ Hid (Below W.heap.size W wr) ∧ Hid (∀ x ∈ l.take t, check3S k x = 0)) (fun i _ => N - (intOf i).toNat)
  case atStart => exact ⟨0, Nat.zero_le _, rfl, Below.refl _ _, by unfold Hid; simp⟩
  case round =>
    obtain ⟨t, ht, rfl, HBw, HAll⟩ := hrel
    have t0 : (0 : Int) ≤ (t : Int) := by omega
    by_cases hlt : t < N
    · have hlt2 : (t : Int) < (N : Int) := by omega
      obtain ⟨e, he⟩ : ∃ e, l[t]? = some e := ⟨l[t]'(by rw [← HN.out]; exact hlt), List.getElem?_eq_getElem _⟩
      have hrd := HRd.out.later HBw.out
      have hok := hrd.ok e (List.mem_of_getElem? he)
      rcases hrd.at_ with h0 | ⟨b, off, rfl, hc⟩
      · rw [h0] at he; simp at he
      have d0 := hc t e he 0 e.vr rfl
      have d1 := hc t e he 1 (.int .i64 e.fam) rfl
      have d2 := hc t e he 2 e.vq rfl
      have d3 := hc t e he 3 (.int .i64 e.ts) rfl
      have d4 := hc t e he 4 (.int .i64 e.seq) rfl
      have d5 := hc t e he 5 (.int .i64 e.kind) rfl
      have d6 := hc t e he 6 e.vv rfl
      simp only [Nat.add_zero] at d0
      have A5 := (Below.refl wr.heap.size wr).alloc (Nat.le_refl _) (.cells e.cells 84)
      have B5 := HBw.out.trans (A5.mono HBw.out.size)
      have HCk := Lib.hid (check3_any ((HB.out.later HBw.out).later A5) (hok.later A5))
      obtain ⟨_, a1, n1, e1, -⟩ := hok.1
      obtain ⟨_, a2, n2, e2, -⟩ := hok.2.1
      obtain ⟨_, a3, n3, e3, -⟩ := hok.2.2
      have hXe : e.cells = #[.slice a1 e.row.length n1, .int .i64 e.fam, .slice a2 e.qual.length n2, .int .i64 e.ts, .int .i64 e.seq, .int .i64 e.kind, .slice a3 e.val.length n3] := by unfold EntD.cells; rw [e1, e2, e3]
      rw [e1] at d0
      rw [e2] at d2
      rw [e3] at d6
      rw [hXe] at HCk B5
      have HB5 := Lib.hid B5
      have HE := Lib.hid he
      obtain ⟨c, hc2⟩ : ∃ c, c = check3S k e := ⟨_, rfl⟩
      rw [← hc2] at HCk
      have HC2 := Lib.hid hc2
      clear hrd hok hc A5 B5 e1 e2 e3 hXe he hc2
      go_wp2_with fail
      refine Calls.mono HCk.out ?_
      rintro z X2 ⟨rfl, b2⟩
      have HB2 := Lib.hid (HB5.out.trans (b2.mono HB5.out.size))
      clear b2 d0 d1 d2 d3 d4 d5 d6 HCk HB5
      by_cases h0 : c = 0
      · have HAll2 : Hid (∀ x ∈ l.take (t + 1), check3S k x = 0) := by
          unfold Hid
          rw [List.take_add_one, HE.out]
          intro x hx
          rcases List.mem_append.1 hx with q | q
          · exact HAll.out x q
          · simp at q
            rw [q, ← HC2.out]; exact h0
        subst h0
        go_wp2
        go_roundw
        case rel => exact ⟨t + 1, by omega, by go_num, HB2, HAll2⟩
        case measure => simp only [intOf]; omega
      · have q : Hid (R = c ∧ R ≠ 0) := by
          have hd : l = l.take t ++ e :: l.drop (t + 1) := by
            have h1 := (List.getElem?_eq_some_iff.1 HE.out)
            rw [← h1.2, ← List.drop_eq_getElem_cons, List.take_append_drop]
          have hfb : firstBad (check3S k) l = c := by
            rw [hd, HC2.out]
            exact firstBad_at HAll.out (by rw [← HC2.out]; exact h0)
          have : R = c := by rw [HRR.out, inOrderE, if_pos (by rw [hfb]; exact h0), hfb]
          exact ⟨this, by rw [this]; exact h0⟩
        have b0 : (c != 0) = true := by simp [h0]
        clear h0
        go_wp2
        go_ret2
        exact ⟨HB2.out, fun _ => by rw [q.out.1]; rfl, fun z => absurd z q.out.2⟩
    · have hge : ¬ (t : Int) < (N : Int) := by omega
      have e : t = N := by omega
      have hall : ∀ x ∈ l, check3S k x = 0 := by have := HAll.out; rwa [e, HN.out, List.take_length] at this
      have HOn := Lib.hid (once_any (HRd.out.later HBw.out) (by rw [← HN.out]; omega) (fun x hx => seq_of_check (hall x hx)))
      have hRv : R = if onceS l = none then 31 else 0 := by rw [HRR.out, inOrderE, if_neg (by rw [firstBad_zero hall]; simp)]
      rw [← HN.out] at HOn
      have HRv := Lib.hid hRv
      clear hRv hall e
      go_wp2_with fail
      refine Calls.mono HOn.out ?_
      rintro z W2 ⟨b2, hnone, hsome⟩
      have HB2 := Lib.hid (HBw.out.trans (b2.mono HBw.out.size))
      clear HOn b2
      cases ho : onceS l with
      | none =>
        have hz := hnone ho
        subst hz
        have q : Hid (R = 31) := by unfold Hid; rw [HRv.out, if_pos ho]
        clear hnone hsome ho
        go_wp2
        go_ret2
        exact ⟨HB2.out, fun _ => by rw [q.out]; rfl, fun z => by have := q.out; omega⟩
      | some xs =>
        obtain ⟨a', c', hz, hrow⟩ := hsome xs ho
        subst hz
        have q : Hid (R = 0) := by unfold Hid; rw [HRv.out, if_neg (by rw [ho]; simp)]
        have hrow2 := row_low hrow HBw.out.size
        have HSc := Lib.hid (HSo.out W2 a' c' xs ho HB2.out hrow2)
        have HRw := Lib.hid hrow2
        have HOo := Lib.hid ho
        clear hnone hsome ho hrow hrow2
        go_wp2_with fail
        refine Calls.mono HSc.out ?_
        rintro z W3 ⟨rfl, ys, hp, hsrt, hrow3, hgr⟩
        have HF := Lib.hid (And.intro hp (And.intro hsrt (And.intro hrow3 hgr)))
        clear hp hsrt hrow3 hgr HSc
        go_wp2
        go_ret2
        obtain ⟨hp, hsrt, hrow3, hgr⟩ := HF.out
        have el := hp.length_eq
        refine ⟨HB2.out.grown hgr HB2.out.size (fun g hg => (HRw.out.lt g hg).1), fun z => absurd q.out z, fun _ => ⟨xs, ys, a', c', HOo.out, hp, hsrt, by rw [el]; rfl, by rw [el]; exact hrow3⟩⟩
end Go.Proofs.YthhkpkfpifllkaaGreat
