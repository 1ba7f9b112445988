import Derived.Test.YtjcpjpjccoeakaaJ04
import Derived.Laws.EntriesVeiled
import Derived.Handy
import Derived.Deep.RegionHeld3
namespace Go.Proofs.Ytjcpjpjccoeakaa
open Go.RowKit
set_option linter.unusedVariables false

/-- The eight comparisons. -/
def cmpsS (a b : EntD) : List Int := [ordC a.row b.row, cmpI a.fam b.fam, aheadS a b 5, ordC a.qual b.qual, aheadS a b 4, cmpI b.ts a.ts, cmpI b.seq a.seq, cmpI a.kind b.kind]
def firstNZ : List Int → Int
  | [] => 0
  | x :: r => if x = 0 then firstNZ r else x
def compareS (a b : EntD) : Int := firstNZ (cmpsS a b)
theorem firstNZ_at : ∀ (l : List Int) (t : Nat), (∀ j, j < t → l.getD j 0 = 0) → l.getD t 0 ≠ 0 → firstNZ l = l.getD t 0
  | [], t, _, h => by simp at h
  | x :: r, 0, _, h => by simp at h ⊢; simp [firstNZ, h]
  | x :: r, t + 1, h0, h => by
    have hx : x = 0 := by simpa using h0 0 (by omega)
    have := firstNZ_at r t (fun j hj => by simpa using h0 (j + 1) (by omega)) (by simpa using h)
    simp [firstNZ, hx]
    simpa using this
theorem firstNZ_none : ∀ (l : List Int), (∀ j, j < l.length → l.getD j 0 = 0) → firstNZ l = 0
  | [], _ => rfl
  | x :: r, h => by
    have hx : x = 0 := by simpa using h 0 (by simp)
    have := firstNZ_none r (fun j hj => by simpa using h (j + 1) (by simp; omega))
    simp [firstNZ, hx, this]

set_option maxRecDepth 100000 in
set_option maxHeartbeats 1000000 in
theorem order_fns (w : World) : Calls Try.prog 56 #[] w fun r w' => r = .returned (.agg #[.func (.func 75) #[] #[], .func (.func 77) #[] #[], .func (.func 79) #[] #[], .func (.func 81) #[] #[], .func (.func 82) #[] #[], .func (.func 83) #[] #[], .func (.func 84) #[] #[], .func (.func 85) #[] #[]]) ∧ Below w.heap.size w w' := by
  have A1 := (Below.refl w.heap.size w).alloc (Nat.le_refl _) (.cells #[.func (.func 75) #[] #[], .func (.func 77) #[] #[], .func (.func 79) #[] #[], .func (.func 81) #[] #[], .func (.func 82) #[] #[], .func (.func 83) #[] #[], .func (.func 84) #[] #[], .func (.func 85) #[] #[]] 86)
  go_enter Try.func56, Try.ntmps56
  go_wp2
  go_returns
  exact ⟨rfl, A1⟩

set_option maxRecDepth 100000 in
set_option maxHeartbeats 8000000 in
theorem compare_any {a b : EntD} {w : World} (ha : EntD.Ok w a) (hb : EntD.Ok w b) :
    Calls Try.prog 20 #[.agg a.cells, .agg b.cells] w fun r w' => r = .returned (.int .i64 (compareS a b)) ∧ Below w.heap.size w w' := by
  have A1 := (Below.refl w.heap.size w).alloc (Nat.le_refl _) (.cells a.cells 35)
  have A2 := A1.alloc A1.size (.cells b.cells 35)
  have bxa0 := (EBox.new w a).later ((Below.refl (w.alloc (.cells a.cells 35)).heap.size (w.alloc (.cells a.cells 35))).alloc (Nat.le_refl _) (.cells b.cells 35))
  have bxb0 := EBox.new (w.alloc (.cells a.cells 35)) b
  rw [World.size_alloc] at bxb0
  have BXA0 : Hid (EBox _ w.heap.size a) := bxa0
  have BXB0 : Hid (EBox _ (w.heap.size + 1) b) := bxb0
  have HA : Hid (EntD.Ok w a) := ha
  have HB : Hid (EntD.Ok w b) := hb
  obtain ⟨va, hva⟩ : ∃ v, v = a.cells := ⟨_, rfl⟩
  clear A1 bxa0 bxb0 ha hb hva va
  go_enter Try.func20, Try.ntmps20
  go_wp2_with fail
  refine (order_fns _).mono ?_
  rintro e1 w1 ⟨rfl, hb1⟩
  have B1 := A2.trans (hb1.mono A2.size)
  have BXA1 := BXA0.out.later hb1
  have BXB1 := BXB0.out.later hb1
  clear A2 BXA0 BXB0 hb1
  go_wp2
  go_loopw [6, 7, 9] (fun f n i wr => ∃ t : Nat, t ≤ 8 ∧ i = .int .i64 (t : Int) ∧ (∀ j, j < t → (cmpsS a b).getD j 0 = 0) ∧ EBox wr w.heap.size a ∧ EBox wr (w.heap.size + 1) b ∧ Below w.heap.size w wr) (fun _ _ i _ => 8 - (intOf i).toNat)
  case atStart => exact ⟨0, by omega, rfl, fun j hj => by omega, BXA1, BXB1, B1⟩
  case round =>
    obtain ⟨t, ht8, rfl, hz, bxa, bxb, hb1⟩ := hrel
    have HZ : Hid (∀ j, j < t → (cmpsS a b).getD j 0 = 0) := hz
    have BXA : Hid (EBox wr w.heap.size a) := bxa
    have BXB : Hid (EBox wr (w.heap.size + 1) b) := bxb
    clear hz
    by_cases hlt : t < 8
    · obtain ⟨S, hS⟩ : ∃ S, S = (cmpsS a b).getD t 0 := ⟨_, rfl⟩
      have HS : Hid (S = (cmpsS a b).getD t 0) := hS
      clear hS
      have ca0 := bxa.vr
      have ca1 := bxa.fam
      have ca2 := bxa.vq
      have ca3 := bxa.ts
      have ca4 := bxa.seq
      have ca5 := bxa.kind
      have ca6 := bxa.vv
      have cb0 := bxb.vr
      have cb1 := bxb.fam
      have cb2 := bxb.vq
      have cb3 := bxb.ts
      have cb4 := bxb.seq
      have cb5 := bxb.kind
      have cb6 := bxb.vv
      rcases (show t = 0 ∨ t = 1 ∨ t = 2 ∨ t = 3 ∨ t = 4 ∨ t = 5 ∨ t = 6 ∨ t = 7 by omega) with rfl | rfl | rfl | rfl | rfl | rfl | rfl | rfl
      · have HC : Hid (∀ w2, Below w.heap.size w w2 → Calls Try.prog 75 #[.agg a.cells, .agg b.cells] w2 fun r w' => r = .returned (.int .i64 S) ∧ Below w2.heap.size w2 w') := fun w2 h2 => by rw [HS.out]; exact ord1_any (HA.out.later h2) (HB.out.later h2)
        have hidx : ∀ w, (Instr.index 86 (.agg #[.func (.func 75) #[] #[], .func (.func 77) #[] #[], .func (.func 79) #[] #[], .func (.func 81) #[] #[], .func (.func 82) #[] #[], .func (.func 83) #[] #[], .func (.func 84) #[] #[], .func (.func 85) #[] #[]]) (.int .i64 0)).run Try.prog w = .ok (.func (.func 75) #[] #[]) w := fun _ => by kernel_rfl
        by_cases hz : S = 0
        · have HZ2 : Hid (∀ j, j < 1 → (cmpsS a b).getD j 0 = 0) := fun j hj => by
            by_cases h : j < 0
            · exact HZ.out j h
            · obtain rfl : j = 0 := by omega
              rw [← HS.out]; exact hz
          subst hz
          have HC2 := HC.out wr hb1
          have HC3 : Hid (Calls Try.prog 75 #[.agg a.cells, .agg b.cells] wr fun r w' => r = .returned (.int .i64 0) ∧ Below wr.heap.size wr w') := HC2
          clear HC HC2 HS
          simp only [EntD.cells] at bxa bxb HC3
          go_wp2_with fail
          refine HC3.out.mono ?_
          rintro e2 w2 ⟨rfl, hb2⟩
          have B2 := hb1.trans (hb2.mono hb1.size)
          have bxa2 := BXA.out.later hb2
          have bxb2 := BXB.out.later hb2
          go_wp2
          go_roundw
          case rel => exact ⟨1, by omega, by go_num, HZ2.out, bxa2, bxb2, B2⟩
          case measure => simp [intOf]
        · have HR : Hid (compareS a b = S) := by unfold Hid compareS; rw [firstNZ_at _ 0 HZ.out (by rw [← HS.out]; exact hz), HS.out]
          have hz1 : (S != 0) = true := by simp; exact hz
          have HC2 := HC.out wr hb1
          have HC3 : Hid (Calls Try.prog 75 #[.agg a.cells, .agg b.cells] wr fun r w' => r = .returned (.int .i64 S) ∧ Below wr.heap.size wr w') := HC2
          clear HC HC2 HS
          simp only [EntD.cells] at bxa bxb HC3
          go_wp2_with fail
          refine HC3.out.mono ?_
          rintro e2 w2 ⟨rfl, hb2⟩
          have B2 := hb1.trans (hb2.mono hb1.size)
          go_wp2
          go_ret
          exact ⟨by rw [HR.out]; rfl, B2⟩
      · have HC : Hid (∀ w2, Below w.heap.size w w2 → Calls Try.prog 77 #[.agg a.cells, .agg b.cells] w2 fun r w' => r = .returned (.int .i64 S) ∧ Below w2.heap.size w2 w') := fun w2 h2 => by rw [HS.out]; exact ord2_any (HA.out.later h2) (HB.out.later h2)
        have hidx : ∀ w, (Instr.index 86 (.agg #[.func (.func 75) #[] #[], .func (.func 77) #[] #[], .func (.func 79) #[] #[], .func (.func 81) #[] #[], .func (.func 82) #[] #[], .func (.func 83) #[] #[], .func (.func 84) #[] #[], .func (.func 85) #[] #[]]) (.int .i64 1)).run Try.prog w = .ok (.func (.func 77) #[] #[]) w := fun _ => by kernel_rfl
        by_cases hz : S = 0
        · have HZ2 : Hid (∀ j, j < 2 → (cmpsS a b).getD j 0 = 0) := fun j hj => by
            by_cases h : j < 1
            · exact HZ.out j h
            · obtain rfl : j = 1 := by omega
              rw [← HS.out]; exact hz
          subst hz
          have HC2 := HC.out wr hb1
          have HC3 : Hid (Calls Try.prog 77 #[.agg a.cells, .agg b.cells] wr fun r w' => r = .returned (.int .i64 0) ∧ Below wr.heap.size wr w') := HC2
          clear HC HC2 HS
          simp only [EntD.cells] at bxa bxb HC3
          go_wp2_with fail
          refine HC3.out.mono ?_
          rintro e2 w2 ⟨rfl, hb2⟩
          have B2 := hb1.trans (hb2.mono hb1.size)
          have bxa2 := BXA.out.later hb2
          have bxb2 := BXB.out.later hb2
          go_wp2
          go_roundw
          case rel => exact ⟨2, by omega, by go_num, HZ2.out, bxa2, bxb2, B2⟩
          case measure => simp [intOf]
        · have HR : Hid (compareS a b = S) := by unfold Hid compareS; rw [firstNZ_at _ 1 HZ.out (by rw [← HS.out]; exact hz), HS.out]
          have hz1 : (S != 0) = true := by simp; exact hz
          have HC2 := HC.out wr hb1
          have HC3 : Hid (Calls Try.prog 77 #[.agg a.cells, .agg b.cells] wr fun r w' => r = .returned (.int .i64 S) ∧ Below wr.heap.size wr w') := HC2
          clear HC HC2 HS
          simp only [EntD.cells] at bxa bxb HC3
          go_wp2_with fail
          refine HC3.out.mono ?_
          rintro e2 w2 ⟨rfl, hb2⟩
          have B2 := hb1.trans (hb2.mono hb1.size)
          go_wp2
          go_ret
          exact ⟨by rw [HR.out]; rfl, B2⟩
      · have HC : Hid (∀ w2, Below w.heap.size w w2 → Calls Try.prog 79 #[.agg a.cells, .agg b.cells] w2 fun r w' => r = .returned (.int .i64 S) ∧ Below w2.heap.size w2 w') := fun w2 h2 => by rw [HS.out]; exact ord3_any (HA.out.later h2) (HB.out.later h2)
        have hidx : ∀ w, (Instr.index 86 (.agg #[.func (.func 75) #[] #[], .func (.func 77) #[] #[], .func (.func 79) #[] #[], .func (.func 81) #[] #[], .func (.func 82) #[] #[], .func (.func 83) #[] #[], .func (.func 84) #[] #[], .func (.func 85) #[] #[]]) (.int .i64 2)).run Try.prog w = .ok (.func (.func 79) #[] #[]) w := fun _ => by kernel_rfl
        by_cases hz : S = 0
        · have HZ2 : Hid (∀ j, j < 3 → (cmpsS a b).getD j 0 = 0) := fun j hj => by
            by_cases h : j < 2
            · exact HZ.out j h
            · obtain rfl : j = 2 := by omega
              rw [← HS.out]; exact hz
          subst hz
          have HC2 := HC.out wr hb1
          have HC3 : Hid (Calls Try.prog 79 #[.agg a.cells, .agg b.cells] wr fun r w' => r = .returned (.int .i64 0) ∧ Below wr.heap.size wr w') := HC2
          clear HC HC2 HS
          simp only [EntD.cells] at bxa bxb HC3
          go_wp2_with fail
          refine HC3.out.mono ?_
          rintro e2 w2 ⟨rfl, hb2⟩
          have B2 := hb1.trans (hb2.mono hb1.size)
          have bxa2 := BXA.out.later hb2
          have bxb2 := BXB.out.later hb2
          go_wp2
          go_roundw
          case rel => exact ⟨3, by omega, by go_num, HZ2.out, bxa2, bxb2, B2⟩
          case measure => simp [intOf]
        · have HR : Hid (compareS a b = S) := by unfold Hid compareS; rw [firstNZ_at _ 2 HZ.out (by rw [← HS.out]; exact hz), HS.out]
          have hz1 : (S != 0) = true := by simp; exact hz
          have HC2 := HC.out wr hb1
          have HC3 : Hid (Calls Try.prog 79 #[.agg a.cells, .agg b.cells] wr fun r w' => r = .returned (.int .i64 S) ∧ Below wr.heap.size wr w') := HC2
          clear HC HC2 HS
          simp only [EntD.cells] at bxa bxb HC3
          go_wp2_with fail
          refine HC3.out.mono ?_
          rintro e2 w2 ⟨rfl, hb2⟩
          have B2 := hb1.trans (hb2.mono hb1.size)
          go_wp2
          go_ret
          exact ⟨by rw [HR.out]; rfl, B2⟩
      · have HC : Hid (∀ w2, Below w.heap.size w w2 → Calls Try.prog 81 #[.agg a.cells, .agg b.cells] w2 fun r w' => r = .returned (.int .i64 S) ∧ Below w2.heap.size w2 w') := fun w2 h2 => by rw [HS.out]; exact ord4_any (HA.out.later h2) (HB.out.later h2)
        have hidx : ∀ w, (Instr.index 86 (.agg #[.func (.func 75) #[] #[], .func (.func 77) #[] #[], .func (.func 79) #[] #[], .func (.func 81) #[] #[], .func (.func 82) #[] #[], .func (.func 83) #[] #[], .func (.func 84) #[] #[], .func (.func 85) #[] #[]]) (.int .i64 3)).run Try.prog w = .ok (.func (.func 81) #[] #[]) w := fun _ => by kernel_rfl
        by_cases hz : S = 0
        · have HZ2 : Hid (∀ j, j < 4 → (cmpsS a b).getD j 0 = 0) := fun j hj => by
            by_cases h : j < 3
            · exact HZ.out j h
            · obtain rfl : j = 3 := by omega
              rw [← HS.out]; exact hz
          subst hz
          have HC2 := HC.out wr hb1
          have HC3 : Hid (Calls Try.prog 81 #[.agg a.cells, .agg b.cells] wr fun r w' => r = .returned (.int .i64 0) ∧ Below wr.heap.size wr w') := HC2
          clear HC HC2 HS
          simp only [EntD.cells] at bxa bxb HC3
          go_wp2_with fail
          refine HC3.out.mono ?_
          rintro e2 w2 ⟨rfl, hb2⟩
          have B2 := hb1.trans (hb2.mono hb1.size)
          have bxa2 := BXA.out.later hb2
          have bxb2 := BXB.out.later hb2
          go_wp2
          go_roundw
          case rel => exact ⟨4, by omega, by go_num, HZ2.out, bxa2, bxb2, B2⟩
          case measure => simp [intOf]
        · have HR : Hid (compareS a b = S) := by unfold Hid compareS; rw [firstNZ_at _ 3 HZ.out (by rw [← HS.out]; exact hz), HS.out]
          have hz1 : (S != 0) = true := by simp; exact hz
          have HC2 := HC.out wr hb1
          have HC3 : Hid (Calls Try.prog 81 #[.agg a.cells, .agg b.cells] wr fun r w' => r = .returned (.int .i64 S) ∧ Below wr.heap.size wr w') := HC2
          clear HC HC2 HS
          simp only [EntD.cells] at bxa bxb HC3
          go_wp2_with fail
          refine HC3.out.mono ?_
          rintro e2 w2 ⟨rfl, hb2⟩
          have B2 := hb1.trans (hb2.mono hb1.size)
          go_wp2
          go_ret
          exact ⟨by rw [HR.out]; rfl, B2⟩
      · have HC : Hid (∀ w2, Below w.heap.size w w2 → Calls Try.prog 82 #[.agg a.cells, .agg b.cells] w2 fun r w' => r = .returned (.int .i64 S) ∧ Below w2.heap.size w2 w') := fun w2 h2 => by rw [HS.out]; exact ord5_any (HA.out.later h2) (HB.out.later h2)
        have hidx : ∀ w, (Instr.index 86 (.agg #[.func (.func 75) #[] #[], .func (.func 77) #[] #[], .func (.func 79) #[] #[], .func (.func 81) #[] #[], .func (.func 82) #[] #[], .func (.func 83) #[] #[], .func (.func 84) #[] #[], .func (.func 85) #[] #[]]) (.int .i64 4)).run Try.prog w = .ok (.func (.func 82) #[] #[]) w := fun _ => by kernel_rfl
        by_cases hz : S = 0
        · have HZ2 : Hid (∀ j, j < 5 → (cmpsS a b).getD j 0 = 0) := fun j hj => by
            by_cases h : j < 4
            · exact HZ.out j h
            · obtain rfl : j = 4 := by omega
              rw [← HS.out]; exact hz
          subst hz
          have HC2 := HC.out wr hb1
          have HC3 : Hid (Calls Try.prog 82 #[.agg a.cells, .agg b.cells] wr fun r w' => r = .returned (.int .i64 0) ∧ Below wr.heap.size wr w') := HC2
          clear HC HC2 HS
          simp only [EntD.cells] at bxa bxb HC3
          go_wp2_with fail
          refine HC3.out.mono ?_
          rintro e2 w2 ⟨rfl, hb2⟩
          have B2 := hb1.trans (hb2.mono hb1.size)
          have bxa2 := BXA.out.later hb2
          have bxb2 := BXB.out.later hb2
          go_wp2
          go_roundw
          case rel => exact ⟨5, by omega, by go_num, HZ2.out, bxa2, bxb2, B2⟩
          case measure => simp [intOf]
        · have HR : Hid (compareS a b = S) := by unfold Hid compareS; rw [firstNZ_at _ 4 HZ.out (by rw [← HS.out]; exact hz), HS.out]
          have hz1 : (S != 0) = true := by simp; exact hz
          have HC2 := HC.out wr hb1
          have HC3 : Hid (Calls Try.prog 82 #[.agg a.cells, .agg b.cells] wr fun r w' => r = .returned (.int .i64 S) ∧ Below wr.heap.size wr w') := HC2
          clear HC HC2 HS
          simp only [EntD.cells] at bxa bxb HC3
          go_wp2_with fail
          refine HC3.out.mono ?_
          rintro e2 w2 ⟨rfl, hb2⟩
          have B2 := hb1.trans (hb2.mono hb1.size)
          go_wp2
          go_ret
          exact ⟨by rw [HR.out]; rfl, B2⟩
      · have HC : Hid (∀ w2, Below w.heap.size w w2 → Calls Try.prog 83 #[.agg a.cells, .agg b.cells] w2 fun r w' => r = .returned (.int .i64 S) ∧ Below w2.heap.size w2 w') := fun w2 h2 => by rw [HS.out]; exact ord6_any (HA.out.later h2) (HB.out.later h2)
        have hidx : ∀ w, (Instr.index 86 (.agg #[.func (.func 75) #[] #[], .func (.func 77) #[] #[], .func (.func 79) #[] #[], .func (.func 81) #[] #[], .func (.func 82) #[] #[], .func (.func 83) #[] #[], .func (.func 84) #[] #[], .func (.func 85) #[] #[]]) (.int .i64 5)).run Try.prog w = .ok (.func (.func 83) #[] #[]) w := fun _ => by kernel_rfl
        by_cases hz : S = 0
        · have HZ2 : Hid (∀ j, j < 6 → (cmpsS a b).getD j 0 = 0) := fun j hj => by
            by_cases h : j < 5
            · exact HZ.out j h
            · obtain rfl : j = 5 := by omega
              rw [← HS.out]; exact hz
          subst hz
          have HC2 := HC.out wr hb1
          have HC3 : Hid (Calls Try.prog 83 #[.agg a.cells, .agg b.cells] wr fun r w' => r = .returned (.int .i64 0) ∧ Below wr.heap.size wr w') := HC2
          clear HC HC2 HS
          simp only [EntD.cells] at bxa bxb HC3
          go_wp2_with fail
          refine HC3.out.mono ?_
          rintro e2 w2 ⟨rfl, hb2⟩
          have B2 := hb1.trans (hb2.mono hb1.size)
          have bxa2 := BXA.out.later hb2
          have bxb2 := BXB.out.later hb2
          go_wp2
          go_roundw
          case rel => exact ⟨6, by omega, by go_num, HZ2.out, bxa2, bxb2, B2⟩
          case measure => simp [intOf]
        · have HR : Hid (compareS a b = S) := by unfold Hid compareS; rw [firstNZ_at _ 5 HZ.out (by rw [← HS.out]; exact hz), HS.out]
          have hz1 : (S != 0) = true := by simp; exact hz
          have HC2 := HC.out wr hb1
          have HC3 : Hid (Calls Try.prog 83 #[.agg a.cells, .agg b.cells] wr fun r w' => r = .returned (.int .i64 S) ∧ Below wr.heap.size wr w') := HC2
          clear HC HC2 HS
          simp only [EntD.cells] at bxa bxb HC3
          go_wp2_with fail
          refine HC3.out.mono ?_
          rintro e2 w2 ⟨rfl, hb2⟩
          have B2 := hb1.trans (hb2.mono hb1.size)
          go_wp2
          go_ret
          exact ⟨by rw [HR.out]; rfl, B2⟩
      · have HC : Hid (∀ w2, Below w.heap.size w w2 → Calls Try.prog 84 #[.agg a.cells, .agg b.cells] w2 fun r w' => r = .returned (.int .i64 S) ∧ Below w2.heap.size w2 w') := fun w2 h2 => by rw [HS.out]; exact ord7_any (HA.out.later h2) (HB.out.later h2)
        have hidx : ∀ w, (Instr.index 86 (.agg #[.func (.func 75) #[] #[], .func (.func 77) #[] #[], .func (.func 79) #[] #[], .func (.func 81) #[] #[], .func (.func 82) #[] #[], .func (.func 83) #[] #[], .func (.func 84) #[] #[], .func (.func 85) #[] #[]]) (.int .i64 6)).run Try.prog w = .ok (.func (.func 84) #[] #[]) w := fun _ => by kernel_rfl
        by_cases hz : S = 0
        · have HZ2 : Hid (∀ j, j < 7 → (cmpsS a b).getD j 0 = 0) := fun j hj => by
            by_cases h : j < 6
            · exact HZ.out j h
            · obtain rfl : j = 6 := by omega
              rw [← HS.out]; exact hz
          subst hz
          have HC2 := HC.out wr hb1
          have HC3 : Hid (Calls Try.prog 84 #[.agg a.cells, .agg b.cells] wr fun r w' => r = .returned (.int .i64 0) ∧ Below wr.heap.size wr w') := HC2
          clear HC HC2 HS
          simp only [EntD.cells] at bxa bxb HC3
          go_wp2_with fail
          refine HC3.out.mono ?_
          rintro e2 w2 ⟨rfl, hb2⟩
          have B2 := hb1.trans (hb2.mono hb1.size)
          have bxa2 := BXA.out.later hb2
          have bxb2 := BXB.out.later hb2
          go_wp2
          go_roundw
          case rel => exact ⟨7, by omega, by go_num, HZ2.out, bxa2, bxb2, B2⟩
          case measure => simp [intOf]
        · have HR : Hid (compareS a b = S) := by unfold Hid compareS; rw [firstNZ_at _ 6 HZ.out (by rw [← HS.out]; exact hz), HS.out]
          have hz1 : (S != 0) = true := by simp; exact hz
          have HC2 := HC.out wr hb1
          have HC3 : Hid (Calls Try.prog 84 #[.agg a.cells, .agg b.cells] wr fun r w' => r = .returned (.int .i64 S) ∧ Below wr.heap.size wr w') := HC2
          clear HC HC2 HS
          simp only [EntD.cells] at bxa bxb HC3
          go_wp2_with fail
          refine HC3.out.mono ?_
          rintro e2 w2 ⟨rfl, hb2⟩
          have B2 := hb1.trans (hb2.mono hb1.size)
          go_wp2
          go_ret
          exact ⟨by rw [HR.out]; rfl, B2⟩
      · have HC : Hid (∀ w2, Below w.heap.size w w2 → Calls Try.prog 85 #[.agg a.cells, .agg b.cells] w2 fun r w' => r = .returned (.int .i64 S) ∧ Below w2.heap.size w2 w') := fun w2 h2 => by rw [HS.out]; exact ord8_any (HA.out.later h2) (HB.out.later h2)
        have hidx : ∀ w, (Instr.index 86 (.agg #[.func (.func 75) #[] #[], .func (.func 77) #[] #[], .func (.func 79) #[] #[], .func (.func 81) #[] #[], .func (.func 82) #[] #[], .func (.func 83) #[] #[], .func (.func 84) #[] #[], .func (.func 85) #[] #[]]) (.int .i64 7)).run Try.prog w = .ok (.func (.func 85) #[] #[]) w := fun _ => by kernel_rfl
        by_cases hz : S = 0
        · have HZ2 : Hid (∀ j, j < 8 → (cmpsS a b).getD j 0 = 0) := fun j hj => by
            by_cases h : j < 7
            · exact HZ.out j h
            · obtain rfl : j = 7 := by omega
              rw [← HS.out]; exact hz
          subst hz
          have HC2 := HC.out wr hb1
          have HC3 : Hid (Calls Try.prog 85 #[.agg a.cells, .agg b.cells] wr fun r w' => r = .returned (.int .i64 0) ∧ Below wr.heap.size wr w') := HC2
          clear HC HC2 HS
          simp only [EntD.cells] at bxa bxb HC3
          go_wp2_with fail
          refine HC3.out.mono ?_
          rintro e2 w2 ⟨rfl, hb2⟩
          have B2 := hb1.trans (hb2.mono hb1.size)
          have bxa2 := BXA.out.later hb2
          have bxb2 := BXB.out.later hb2
          go_wp2
          go_roundw
          case rel => exact ⟨8, by omega, by go_num, HZ2.out, bxa2, bxb2, B2⟩
          case measure => simp [intOf]
        · have HR : Hid (compareS a b = S) := by unfold Hid compareS; rw [firstNZ_at _ 7 HZ.out (by rw [← HS.out]; exact hz), HS.out]
          have hz1 : (S != 0) = true := by simp; exact hz
          have HC2 := HC.out wr hb1
          have HC3 : Hid (Calls Try.prog 85 #[.agg a.cells, .agg b.cells] wr fun r w' => r = .returned (.int .i64 S) ∧ Below wr.heap.size wr w') := HC2
          clear HC HC2 HS
          simp only [EntD.cells] at bxa bxb HC3
          go_wp2_with fail
          refine HC3.out.mono ?_
          rintro e2 w2 ⟨rfl, hb2⟩
          have B2 := hb1.trans (hb2.mono hb1.size)
          go_wp2
          go_ret
          exact ⟨by rw [HR.out]; rfl, B2⟩
    · have hge : (8 : Int) ≤ (t : Int) := by omega
      have HR : Hid (compareS a b = 0) := by unfold Hid compareS; exact firstNZ_none _ (fun j hj => HZ.out j (by have : (cmpsS a b).length = 8 := rfl; omega))
      clear hlt
      go_wp2
      go_ret
      exact ⟨by rw [HR.out]; rfl, hb1⟩

end Go.Proofs.Ytjcpjpjccoeakaa

namespace Go.Proofs.Ytjcpjpjccoeakaa
open Go.RowKit
set_option linter.unusedVariables false

/-- All blocks but one are as they were. -/
structure Apart (g : Nat) (w w' : World) : Prop where
  os : w'.os = w.os
  tape : w'.tape = w.tape
  output : w'.output = w.output
  size : w.heap.size ≤ w'.heap.size
  block : ∀ k, k < w.heap.size → k ≠ g → w'.heap[k]? = w.heap[k]?
theorem Apart.refl (g : Nat) (w : World) : Apart g w w := ⟨rfl, rfl, rfl, Nat.le_refl _, fun _ _ _ => rfl⟩
theorem Apart.trans {g : Nat} {a b c : World} (h : Apart g a b) (k : Apart g b c) : Apart g a c :=
  ⟨k.os.trans h.os, k.tape.trans h.tape, k.output.trans h.output, Nat.le_trans h.size k.size, fun i hi hg => (k.block i (Nat.lt_of_lt_of_le hi h.size) hg).trans (h.block i hi hg)⟩
theorem Apart.of {g : Nat} {w w' : World} (h : Below w.heap.size w w') : Apart g w w' := ⟨h.os, h.tape, h.output, h.size, fun k hk _ => h.block k hk⟩
theorem Apart.below {g B : Nat} {w w' : World} (h : Apart g w w') (hg : B ≤ g) (hB : B ≤ w.heap.size) : Below B w w' :=
  ⟨h.os, h.tape, h.output, h.size, fun k hk => h.block k (by omega) (by omega)⟩

/-- A reader's block. -/
def rcells (v : Value) (k : Int) (bad : Bool) : Array Value := #[v, .int .i64 k, .bool bad]
def RBox (w : World) (g : Nat) (v : Value) (k : Int) (bad : Bool) : Prop := w.heap[g]? = some (.cells (rcells v k bad) 93 (0, 0))
theorem RBox.vb {w : World} {g : Nat} {v : Value} {k : Int} {b : Bool} (h : RBox w g v k b) : w.cell? ⟨g, 0, none⟩ = some v := by unfold RBox rcells at h; simp [World.cell?, h]
theorem RBox.vk {w : World} {g : Nat} {v : Value} {k : Int} {b : Bool} (h : RBox w g v k b) : w.cell? ⟨g, 1, none⟩ = some (.int .i64 k) := by unfold RBox rcells at h; simp [World.cell?, h]
theorem RBox.vd {w : World} {g : Nat} {v : Value} {k : Int} {b : Bool} (h : RBox w g v k b) : w.cell? ⟨g, 2, none⟩ = some (.bool b) := by unfold RBox rcells at h; simp [World.cell?, h]
theorem RBox.fz {w : World} {g : Nat} {v : Value} {k : Int} {b : Bool} (h : RBox w g v k b) (i : Nat) : w.frozen? ⟨g, i, none⟩ = false := by unfold RBox at h; simp [World.frozen?, h]
theorem RBox.lt {w : World} {g : Nat} {v : Value} {k : Int} {b : Bool} (h : RBox w g v k b) : g < w.heap.size := (Array.getElem?_eq_some_iff.1 h).1
theorem RBox.later {w w' : World} {g : Nat} {v : Value} {k : Int} {b : Bool} (h : RBox w g v k b) (hb : Below w.heap.size w w') : RBox w' g v k b := by
  unfold RBox at *
  rw [hb.block g (Array.getElem?_eq_some_iff.1 h).1]; exact h
theorem RBox.new (w : World) (v : Value) (k : Int) (b : Bool) : RBox (w.alloc (.cells (rcells v k b) 93)) w.heap.size v k b := by
  show (w.heap.push _)[w.heap.size]? = some _
  simp
theorem RBox.setk {w : World} {g : Nat} {v : Value} {k : Int} {b : Bool} (h : RBox w g v k b) (z : Int) : RBox (w.setCell ⟨g, 1, none⟩ (.int .i64 z)) g v z b := by
  unfold RBox rcells at *
  simp [World.setCell, Array.getElem?_modify, h]
theorem RBox.setd {w : World} {g : Nat} {v : Value} {k : Int} {b : Bool} (h : RBox w g v k b) (z : Bool) : RBox (w.setCell ⟨g, 2, none⟩ (.bool z)) g v k z := by
  unfold RBox rcells at *
  simp [World.setCell, Array.getElem?_modify, h]
theorem apart_set (w : World) (g i : Nat) (x : Value) : Apart g w (w.setCell ⟨g, i, none⟩ x) := by
  refine ⟨rfl, rfl, rfl, by simp [World.setCell], fun k hk hg => ?_⟩
  simp [World.setCell, Array.getElem?_modify, Ne.symm hg]
theorem Rd.apart {w w' : World} {g : Nat} {a : Option Addr} {m c : Nat} {k : Int} {b : Bool} {v : Value} {bs : List Nat} (h : Rd w v bs) (hr : RBox w g (.slice a m c) k b) (hw : Apart g w w') : Rd w' v bs := by
  obtain ⟨h1, a2, cap, h2, h3, h4, h5, h6, h7⟩ := h
  refine ⟨h1, a2, cap, h2, h3, h4, h5, h6, ?_⟩
  rcases h7 with h | ⟨bl, off, rfl, hc⟩
  · exact .inl h
  · refine .inr ⟨bl, off, rfl, fun i hi => ?_⟩
    have hx := hc i hi
    have hne : bl ≠ g := by
      rintro rfl
      unfold RBox rcells at hr
      simp only [World.cell?, hr] at hx
      rcases hj : off + i with _ | _ | _ | j <;> rw [hj] at hx <;> simp at hx
    have hl := World.block_lt_of_cell? w _ hx
    have hb := hw.block bl hl hne
    simp only [World.cell?] at hx ⊢
    rw [hb]; exact hx
theorem Own.apart {w w' : World} {g B m0 : Nat} {v v0 : Value} {k : Int} {b : Bool} {xs : List Nat} (h : Own w B v m0 xs) (hr : RBox w g v0 k b) (hw : Apart g w w') : Own w' B v m0 xs := by
  refine ⟨h.1, h.2.1, ?_⟩
  rcases h.2.2 with h2 | ⟨g2, cap, cur, h3, h4, h5, h6⟩
  · exact .inl h2
  · refine .inr ⟨g2, cap, cur, h3, h4, ?_, h6⟩
    rw [hw.block g2 (Array.getElem?_eq_some_iff.1 h5).1 ?_]
    · exact h5
    · rintro rfl
      unfold RBox at hr
      rw [h5] at hr
      have := Option.some.inj hr
      injection this with _ e
      exact absurd e (by decide)

set_option maxRecDepth 100000 in
set_option maxHeartbeats 1000000 in
theorem step_any {w : World} {g : Nat} {v : Value} {k : Int} {bad : Bool} (h : RBox w g v k bad) (z : Int) (er : Nat) :
    Calls Try.prog 111 #[.pointer (some ⟨g, 0, none⟩), .int .i64 z, .int .i64 (er : Int)] w fun e w' => e = .returned (.tuple #[]) ∧ RBox w' g v z (bad || decide (er ≠ 0)) ∧ Apart g w w' := by
  have x0 := h.vb
  have x1 := h.vk
  have x2 := h.vd
  have f1 := h.fz 1
  have f2 := h.fz 2
  have H : Hid (RBox w g v k bad) := h
  clear h
  by_cases hb : bad = true
  · subst hb
    go_enter Try.func111, Try.ntmps111
    go_wp2
    refine bodyPost_end (v := .tuple #[]) (by first | rfl | kernel_rfl) rfl ?_
    exact ⟨rfl, (H.out.setk z).setd _, (apart_set _ _ _ _).trans (apart_set _ _ _ _)⟩
  · obtain rfl : bad = false := by simpa using hb
    go_enter Try.func111, Try.ntmps111
    go_wp2
    refine bodyPost_end (v := .tuple #[]) (by first | rfl | kernel_rfl) rfl ?_
    refine ⟨rfl, ?_, (apart_set _ _ _ _).trans (apart_set _ _ _ _)⟩
    have := (H.out.setk z).setd (decide (er ≠ 0))
    have e : ((er : Int) != 0) = decide (er ≠ 0) := by by_cases he : er = 0 <;> simp [he]
    rw [e]
    simpa using this

set_option maxRecDepth 100000 in
set_option maxHeartbeats 1000000 in
theorem text_any {w : World} {g m c : Nat} {a : Option Addr} {bs : List Nat} {bad : Bool} (k : Nat) (h : RBox w g (.slice a m c) (k : Int) bad) (hr : Rd w (.slice a m c) bs) (hk : k ≤ bs.length) (h47 : bs.length ≤ 140737488355328) :
    Calls Try.prog 88 #[.pointer (some ⟨g, 0, none⟩)] w fun e w' => ∃ a' m' c', e = .returned (.slice a' m' c') ∧ Own w' w.heap.size (.slice a' m' c') m' (ordR bs k).1 ∧ RBox w' g (.slice a m c) (((ordR bs k).2.1 : Nat) : Int) (bad || decide ((ordR bs k).2.2 ≠ 0)) ∧ Apart g w w' := by
  have x0 := h.vb
  have x1 := h.vk
  have H : Hid (RBox w g (.slice a m c) (k : Int) bad) := h
  clear h
  go_enter Try.func88, Try.ntmps88
  have BD : Below w.heap.size w w.drew := (Below.refl _ _).drew
  have y0 := (H.out.later BD).vb
  have y1 := (H.out.later BD).vk
  have HRD : Hid (Rd w.drew (.slice a m c) bs ∧ k ≤ bs.length ∧ bs.length ≤ 140737488355328) := ⟨hr.later BD, hk, h47⟩
  clear hr hk h47
  go_wp2_with fail
  go_region_held3 (fun wx => wx.cell? ⟨g, 0, none⟩ = some (.slice a m c) ∧ wx.cell? ⟨g, 1, none⟩ = some (.int .i64 (k : Int)) ∧ Below w.heap.size w wx) (first | exact ⟨y0, y1, BD⟩ | exact ⟨z0, z1, BA⟩) (first | (go_at_call 110; refine (readOrdered_in HRD.out.1 k HRD.out.2.1 HRD.out.2.2).mono ?_; rintro e1 w1 ⟨a1, m1, c1, rfl, own1, hb1⟩; have BA : Below w.heap.size w w1 := BD.trans hb1; have z0 := (H.out.later BA).vb; have z1 := (H.out.later BA).vk))
  go_wp2_with fail
  refine (step_any (H.out.later BA) _ _).mono ?_
  rintro e2 w2 ⟨rfl, bx, ap⟩
  go_wp2
  go_ret
  exact ⟨a1, m1, c1, rfl, own1.apart (H.out.later BA) ap, bx, (Apart.of BA).trans ap⟩

set_option maxRecDepth 100000 in
set_option maxHeartbeats 1000000 in
theorem kfalling_any {w : World} {g m c : Nat} {a : Option Addr} {bs : List Nat} {bad : Bool} (k : Nat) (h : RBox w g (.slice a m c) (k : Int) bad) (hr : Rd w (.slice a m c) bs) (hk : k ≤ bs.length) :
    Calls Try.prog 90 #[.pointer (some ⟨g, 0, none⟩)] w fun e w' => e = .returned (.int .i64 (((fallR bs k).1 : Nat) : Int)) ∧ RBox w' g (.slice a m c) (((fallR bs k).2.1 : Nat) : Int) (bad || decide ((fallR bs k).2.2 ≠ 0)) ∧ Apart g w w' := by
  have x0 := h.vb
  have x1 := h.vk
  have H : Hid (RBox w g (.slice a m c) (k : Int) bad) := h
  clear h
  go_enter Try.func90, Try.ntmps90
  have BD : Below w.heap.size w w.drew := (Below.refl _ _).drew
  have y0 := (H.out.later BD).vb
  have y1 := (H.out.later BD).vk
  have HRD : Hid (Rd w.drew (.slice a m c) bs ∧ k ≤ bs.length) := ⟨hr.later BD, hk⟩
  clear hr hk
  go_wp2_with fail
  go_region_held3 (fun wx => wx.cell? ⟨g, 0, none⟩ = some (.slice a m c) ∧ wx.cell? ⟨g, 1, none⟩ = some (.int .i64 (k : Int)) ∧ Below w.heap.size w wx) (first | exact ⟨y0, y1, BD⟩) (first | (go_at_call 112; refine (readFalling_in HRD.out.1 k HRD.out.2).mono ?_; rintro e1 w1 ⟨rfl, rfl⟩))
  go_wp2_with fail
  refine (step_any (H.out.later BD) _ _).mono ?_
  rintro e2 w2 ⟨rfl, bx, ap⟩
  go_wp2
  go_ret
  exact ⟨rfl, bx, (Apart.of BD).trans ap⟩

/-- One byte. -/
def oneR (bs : List Nat) (k : Nat) : Nat × Nat × Bool := if k = bs.length then (0, k, true) else (bs.getD k 0, k + 1, false)
theorem oneR_end (bs : List Nat) : oneR bs bs.length = (0, bs.length, true) := by simp [oneR]
theorem oneR_in (bs : List Nat) (k : Nat) (h : k < bs.length) : oneR bs k = (bs.getD k 0, k + 1, false) := by simp [oneR]; omega
set_option maxRecDepth 100000 in
set_option maxHeartbeats 1000000 in
theorem one_any {w : World} {g m c : Nat} {a : Option Addr} {bs : List Nat} {bad : Bool} (k : Nat) (h : RBox w g (.slice a m c) (k : Int) bad) (hr : Rd w (.slice a m c) bs) (hk : k ≤ bs.length) :
    Calls Try.prog 89 #[.pointer (some ⟨g, 0, none⟩)] w fun e w' => e = .returned (.int .u8 (((oneR bs k).1 : Nat) : Int)) ∧ RBox w' g (.slice a m c) (((oneR bs k).2.1 : Nat) : Int) (bad || (oneR bs k).2.2) ∧ Apart g w w' := by
  have x0 := h.vb
  have x1 := h.vk
  have x2 := h.vd
  have f1 := h.fz 1
  have f2 := h.fz 2
  have H : Hid (RBox w g (.slice a m c) (k : Int) bad) := h
  clear h
  obtain ⟨hn, hle, hm, hl48⟩ := rd_lens hr
  by_cases he : k = bs.length
  · have HE : Hid (oneR bs k = (0, k, true)) := by unfold Hid; rw [he]; exact oneR_end bs
    have hkm : (k : Int) = (m : Int) := by omega
    have hkb : ((k : Int) == (m : Int)) = true := by simp; omega
    clear hr hk he hn
    rw [HE.out]
    have BD : Below w.heap.size w w.drew := (Below.refl _ _).drew
    have HD : Hid (RBox w.drew g (.slice a m c) (k : Int) bad) := H.out.later BD
    go_enter Try.func89, Try.ntmps89
    go_wp2_with fail
    go_region
    have y0 := HD.out.vb
    have y1 := HD.out.vk
    have y2 := HD.out.vd
    have e1 := HD.out.fz 1
    have e2 := HD.out.fz 2
    go_wp2
    go_ret
    refine ⟨rfl, ?_, (apart_set _ _ _ _).trans (Apart.of (Below.refl _ _).drew)⟩
    have := (H.out.setd true).later (Below.refl _ _).drew
    simpa using this
  · have hk' : k < bs.length := by omega
    have HE : Hid (oneR bs k = (bs.getD k 0, k + 1, false)) := oneR_in bs k hk'
    have hkb : ((k : Int) == (m : Int)) = false := by simp; omega
    have hkne : ¬ ((k : Int) = (m : Int)) := by omega
    have hkm : k < m := by omega
    have BD : Below w.heap.size w w.drew := (Below.refl _ _).drew
    have HD : Hid (RBox w.drew g (.slice a m c) (k : Int) bad) := H.out.later BD
    have HR : Hid (Rd w (.slice a m c) bs) := hr
    clear hr hk he hn hk'
    rw [HE.out]
    go_enter Try.func89, Try.ntmps89
    go_wp2_with fail
    go_region
    have y0 := HD.out.vb
    have y1 := HD.out.vk
    have y2 := HD.out.vd
    have e1 := HD.out.fz 1
    have e2 := HD.out.fz 2
    go_wp2_with fail
    have ap : Apart g w (w.setCell ⟨g, 1, none⟩ (.int .i64 ((k : Int) + 1))).drew := (apart_set _ _ _ _).trans (Apart.of (Below.refl _ _).drew)
    have bx : RBox (w.setCell ⟨g, 1, none⟩ (.int .i64 ((k : Int) + 1))).drew g (.slice a m c) ((k : Int) + 1) bad := (H.out.setk _).later (Below.refl _ _).drew
    have r2 := HR.out.apart H.out ap
    generalize (w.setCell ⟨g, 1, none⟩ (.int .i64 ((k : Int) + 1))).drew = w2 at ap bx r2 ⊢
    clear x0 x1 x2 f1 f2 y0 y1 y2 e1 e2 HD BD
    have y0 := bx.vb
    have y1 := bx.vk
    have HX : Hid (RBox w2 g (.slice a m c) ((k : Int) + 1) bad) := bx
    obtain ⟨h0, _, _⟩ | ⟨b, off, rfl⟩ := rd_some r2
    · omega
    obtain ⟨hc, hcl⟩ := rd_cell r2 k hkm
    have hi0 : (0 : Int) ≤ (k : Int) := by omega
    have hi1 : (k : Int) < (m : Int) := by omega
    clear bx r2
    go_region
    go_wp2
    go_ret
    refine ⟨rfl, ?_, ap.trans (Apart.of (Below.refl _ _).drew)⟩
    have := HX.out.later (Below.refl _ _).drew
    simpa using this
end Go.Proofs.Ytjcpjpjccoeakaa
